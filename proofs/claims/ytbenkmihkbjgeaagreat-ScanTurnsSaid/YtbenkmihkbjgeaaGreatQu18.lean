/- Texts put together: UGs19, UFx22, UGd0, UGd1, UShP0, UShW0. -/
import Derived.Test.YtbenkmihkbjgeaaGreatQu17
import Derived.Test.YtbenkmihkbjgeaaGreatQu12
import Derived.Test.YtbenkmihkbjgeaaGreatRows
import Derived.Test.YtbenkmihkbjgeaaGreatQu01
import Derived.WalkKit
import Derived.ProofKit
import Derived.OpenShut
import Derived.BigQuiet
import Derived.Deep.QuietTactic
import Derived.Lib.Hide
import Derived.Deep.RegionWith
import Derived.StillTailTactics
import Derived.Deep.DeepFit
import Derived.Deep.WholeRow
import Derived.Deep.MidRow
import Derived.Deep.AppendLies
import Derived.Deep.Draws
import Derived.Maps.AppendAt
import Derived.Deep.RegionHeld3
import Derived.Deep.OwnRows
import Derived.Lib.SlBytesConst
/- Package fsim: List. -/
namespace Go.Proofs.YtbenkmihkbjgeaaGreat.Tx
open Go.RowKit Go.Maps Go.Proofs.YtbenkmihkbjgeaaGreat.Sh
def lisE (c : CSt) (dir : List UInt8) : Int := if bgE c = 0 then (if dir ≠ [] ∧ pathB dir = false then 6 else 0) else bgE c
def lisO (c : CSt) (dir : List UInt8) : List (List UInt8) := if lisE c dir = 0 then listC (bgC c).c.here dir else []
def LisPost (F M : Nat → Prop) (w : World) (b : Nat) (s : CSt) (n : Int) (l : List (List UInt8)) (e : Ending) (w' : World) : Prop :=
 ∃ v w1, e = .returned (.tuple #[v, .int .i64 n]) ∧ FcPost F M w b s w1 ∧ Below w1.heap.size w1 w' ∧ OwnV 9 w' w1.heap.size v ((l.map str).map sv)
set_option maxRecDepth 100000 in
set_option maxHeartbeats 3200000 in
theorem list_any (F M : Nat → Prop) (b : Nat) (c : CSt) (N : Nat) (dir : List UInt8) (w : World) (h : FcAt F w b c M) (hr : CReady c N) (hd : dir.length ≤ 900000) :
  Calls Tryz.prog 33 #[.pointer (some ⟨b, 0, none⟩), .string (str dir)] w (LisPost F M w b (bgC c).c (lisE c dir) (lisO c dir)) := by
 have H := Lib.hid h
 have HR := Lib.hid hr
 obtain ⟨be, hbe⟩ : ∃ be, bgE c = be := ⟨_, rfl⟩
 have HBE := Lib.hid hbe
 obtain ⟨rm, hrm⟩ : ∃ rm, (bgC c).room = rm := ⟨_, rfl⟩
 have HRM := Lib.hid hrm
 obtain ⟨s, hs⟩ : ∃ s, (bgC c).c = s := ⟨_, rfl⟩
 have HSS := Lib.hid hs
 have HSM := Lib.hid hr.small
 obtain ⟨tp, htp⟩ : ∃ t, pathB dir = t := ⟨_, rfl⟩
 have HTP := Lib.hid htp
 clear h hr hbe hrm hs htp
 rw [HSS.out]
 go_enter Tryz.func33, Tryz.ntmps33
 go_wp2_with fail
 refine (begin_any F M b c N _ H.out HR.out.fits HR.out.big HR.out.calls HR.out.paths).mono ?_
 rintro e w1 ⟨rfl, hpost⟩
 rw [HBE.out, HRM.out]
 rw [HSS.out] at hpost HSM
 have HP1 := Lib.hid hpost
 obtain ⟨M1, hat, hon, hsub⟩ := hpost
 have HAT := Lib.hid hat
 clear hat hon hsub
 have HLP : Hid (∀ w', Below w1.heap.size w1 w' → FcAt (grow F w w1 M1) w' b s M1) := fun w' hb => HAT.out.below hb
 have HTREE : Hid (∀ w', Below w1.heap.size w1 w' → ∃ t, w'.cell? ⟨b, 6, none⟩ = some (.pointer (some ⟨t, 0, none⟩)) ∧ Calls Tryz.prog 106 #[.pointer (some ⟨t, 0, none⟩), .string (str dir)] w' (TextsPost w' ((listC s.here dir).map str))) := fun w' hb => by
  obtain ⟨x, hX, _⟩ := HAT.out.below hb
  exact ⟨x.here, hX.blk.cell 6, tpaths_any _ x.here x.hf x.hu s.here dir w' hX.here (by have := HSM.out.here; omega) hd⟩
 by_cases hb0 : be = 0
 ·subst hb0
  by_cases hde : dir = []
  ·have HE : Hid (lisE c dir = 0 ∧ lisO c dir = listC s.here dir) := by
    have h1 : lisE c dir = 0 := by unfold lisE; rw [if_pos HBE.out, if_neg (fun h => h.1 hde)]
    exact ⟨h1, by unfold lisO; rw [h1, if_pos rfl, HSS.out]⟩
   obtain ⟨z2, z3⟩ := str_nil hde
   obtain ⟨t, c6, hpaths⟩ := HTREE.out w1 (Below.refl _ _)
   have HPA := Lib.hid hpaths
   clear hde hpaths
   go_wp2_with fail
   refine HPA.out.mono ?_
   rintro e w2 ⟨v, rfl, ho, hb⟩
   have HO := Lib.hid ho
   have HB := Lib.hid hb
   clear ho hb
   go_wp2_with fail
   go_ret2
   refine ⟨v, w1, by rw [HE.out.1]; rfl, HP1.out, HB.out, by rw [HE.out.2]; exact HO.out⟩
  ·have HDE := Lib.hid hde
   obtain ⟨z2, z3⟩ := str_some hde
   clear hde
   go_wp2_with fail
   refine (npath_any dir _ (by omega)).mono ?_
   rintro e w2 ⟨rfl, hb2⟩
   rw [HTP.out]
   have HB2 := Lib.hid hb2
   clear hb2
   cases tp with
   | false =>
    have HE : Hid (lisE c dir = 6 ∧ lisO c dir = []) := by
     have h1 : lisE c dir = 6 := by unfold lisE; rw [if_pos HBE.out, if_pos ⟨HDE.out, HTP.out⟩]
     exact ⟨h1, by unfold lisO; rw [h1, if_neg (by decide)]⟩
    go_wp2_with fail
    go_ret2
    refine ⟨_, w1, by rw [HE.out.1]; rfl, HP1.out, HB2.out, by rw [HE.out.2]; exact OwnV.nil_ _ _⟩
   | true =>
    have HE : Hid (lisE c dir = 0 ∧ lisO c dir = listC s.here dir) := by
     have h1 : lisE c dir = 0 := by unfold lisE; rw [if_pos HBE.out, if_neg (fun h => by rw [HTP.out] at h; exact absurd h.2 (by decide))]
     exact ⟨h1, by unfold lisO; rw [h1, if_pos rfl, HSS.out]⟩
    obtain ⟨t, c6, hpaths⟩ := HTREE.out w2 HB2.out
    have HPA := Lib.hid hpaths
    clear hpaths
    go_wp2_with fail
    refine HPA.out.mono ?_
    rintro e w3 ⟨v, rfl, ho, hb⟩
    have HO := Lib.hid ho
    have HB := Lib.hid hb
    clear ho hb
    go_wp2_with fail
    go_ret2
    refine ⟨v, w1, by rw [HE.out.1]; rfl, HP1.out, HB2.out.trans (HB.out.mono HB2.out.size), by rw [HE.out.2]; exact HO.out.base HB2.out.size⟩
 ·have e1 : (be == 0) = false := by rw [beq_eq_false_iff_ne]; exact hb0
  have HE : Hid (lisE c dir = be ∧ lisO c dir = []) := by
   have h1 : lisE c dir = be := by unfold lisE; rw [HBE.out, if_neg hb0]
   exact ⟨h1, by unfold lisO; rw [h1, if_neg hb0]⟩
  clear hb0
  go_wp2_with fail
  go_ret2
  refine ⟨_, w1, by rw [HE.out.1]; rfl, HP1.out, Below.refl _ _, by rw [HE.out.2]; exact OwnV.nil_ _ _⟩
end Go.Proofs.YtbenkmihkbjgeaaGreat.Tx
/- The reference's file system: Plan. -/
namespace Go.Proofs.YtbenkmihkbjgeaaGreat.Tx
open Go.RowKit Go.Proofs.YtbenkmihkbjgeaaGreat.Sh
def planR (c : Int) (l : List EvM) : List EvM := l.filter fun e => decide (c < e.at_)
def planM (st : FSM) (l : List EvM) : FSM := { st with plan := planR st.calls l }
end Go.Proofs.YtbenkmihkbjgeaaGreat.Tx
/- A file system of the program's beside one of the document's. -/
namespace Go.Proofs.YtbenkmihkbjgeaaGreat.Tx
open Go.RowKit Go.Maps Go.Proofs.YtbenkmihkbjgeaaGreat.Sh
structure TwoX (F : Nat → Prop) (w : World) (b : Nat) (c : CSt) (d : Nat) (st : FSM) (Mf Mx : Nat → Prop) : Prop where
 f : FcAt F w b c Mf
 x : RefAt F w d st Mx
 apart : ∀ k, Mf k → ¬ Mx k
def TwoAt (F : Nat → Prop) (w : World) (b : Nat) (c : CSt) (d : Nat) (st : FSM) (M : Nat → Prop) : Prop := ∃ Mf Mx, TwoX F w b c d st Mf Mx ∧ ∀ k, M k ↔ Mf k ∨ Mx k
def TwoPost (F M : Nat → Prop) (w : World) (b : Nat) (c : CSt) (d : Nat) (st : FSM) (w' : World) : Prop := ∃ M', TwoAt (grow F w w' M') w' b c d st M' ∧ Only M w w' ∧ ∀ k, M' k → M k ∨ w.heap.size ≤ k
section
variable {F F' M Mf Mx Z : Nat → Prop} {w w1 w2 w3 w' : World} {b d : Nat} {c c' : CSt} {st st' : FSM}
end
end Go.Proofs.YtbenkmihkbjgeaaGreat.Tx
/- The laws' operations, as plain data: what each does to either file system; how great it may grow; what counts. (No Go in it.) -/
namespace Go.Proofs.YtbenkmihkbjgeaaGreat.Tx
structure LOp where
 kind : Int
 mode : Int
 keep : Int
 torn : Int
 path : List UInt8
 dest : List UInt8
 data : List UInt8
 plan : List EvM
def planC (c : CSt) (l : List EvM) : CSt := { c with plan := (l.filter fun e => decide (c.calls < e.at_)).mergeSort fun a b => decide (a.at_ ≤ b.at_) }
def doesC (c : CSt) (o : LOp) : CSt :=
 if o.kind = 0 then crtC c o.path o.mode o.data true
 else if o.kind = 1 then crtC c o.path o.mode o.data false
 else if o.kind = 2 then movC c o.path o.dest false
 else if o.kind = 3 then movC c o.path o.dest true
 else if o.kind = 4 then remC c o.path
 else if o.kind = 5 then synC c
 else if o.kind = 6 then (bgC c).c
 else if o.kind = 7 then (bgC c).c
 else if o.kind = 8 then uwC c o.path o.mode o.data
 else if o.kind = 9 then urC c o.path
 else if o.kind = 10 then crC c o.keep o.torn
 else if o.kind = 11 then { c with down := false }
 else if o.kind = 12 then planC c o.plan
 else c
def doesM (s : FSM) (o : LOp) : FSM :=
 if o.kind = 0 then writeM s o.path o.mode o.data true
 else if o.kind = 1 then writeM s o.path o.mode o.data false
 else if o.kind = 2 then moveM s o.path o.dest false
 else if o.kind = 3 then moveM s o.path o.dest true
 else if o.kind = 4 then removeM s o.path
 else if o.kind = 5 then syncM s
 else if o.kind = 6 then (beginM s).st
 else if o.kind = 7 then (beginM s).st
 else if o.kind = 8 then userWM s o.path o.mode o.data
 else if o.kind = 9 then userRM s o.path
 else if o.kind = 10 then crashM s o.keep o.torn
 else if o.kind = 11 then { s with down := false }
 else if o.kind = 12 then planM s o.plan
 else s
structure OpOK (o : LOp) : Prop where
 path : o.path.length ≤ 400
 dest : o.dest.length ≤ 400
 data : o.data.length ≤ 140737488351232
 plan : o.plan.length ≤ 60
 paths : ∀ e ∈ o.plan, e.path.length ≤ 400
structure GoC (c : CSt) (i : Nat) : Prop where
 fits : CFits c (130 * i)
 calls : 0 ≤ c.calls ∧ c.calls ≤ (i : Int)
 plan : c.plan.length ≤ 60
 paths : ∀ e ∈ c.plan, e.path.length ≤ 400
theorem mv_plan (c : CSt) (fr tt : List UInt8) (create : Bool) : (mvC c fr tt create).plan = c.plan ∧ (mvC c fr tt create).calls = c.calls := by
 unfold mvC
 split <;> exact ⟨rfl, rfl⟩
theorem bg_plan (c : CSt) : (bgC c).c.plan = c.plan.drop (bgN c) ∧ (bgC c).c.calls = c.calls + 1 := ⟨(bgK_plan c (bgN c)).1, (bgK_plan c (bgN c)).2.1⟩
theorem GoC.new_ (room : Int) : GoC (newC room) 0 := by
 refine ⟨⟨Nat.le_refl _, Nat.le_refl _, Nat.le_refl _, Int.le_refl _, Int.le_refl _, ?_, ?_, ?_⟩, ⟨Int.le_refl _, Int.le_refl _⟩, Nat.zero_le _, ?_⟩
 all_goals exact fun r hr => by cases hr
structure GoM (s : FSM) (i : Nat) : Prop where
 fits : Fits s (130 * i)
 calls : 0 ≤ s.calls ∧ s.calls ≤ (i : Int)
 plan : s.plan.length ≤ 60
 paths : ∀ e ∈ s.plan, e.path.length ≤ 400
/-! What counts, where nothing is planned. -/
structure Tick (c c' : CSt) : Prop where
 calls : c'.calls = c.calls
 plan : c'.plan = c.plan
 time : c'.time = c.time ∧ c'.pending.length = c.pending.length ∨ c'.time = c.time + 1 ∧ c'.pending.length = c.pending.length + 1
structure Counts (c c' : CSt) (k : Int) : Prop where
 calls : c'.calls = c.calls + if k ≤ 7 then 1 else 0
 time : c.time ≤ c'.time ∧ c'.time ≤ c.time + 1
 four : k ≤ 4 → (c'.pending.length : Int) = c.pending.length + c'.time - c.time
 more : 4 < k → c'.pending.length ≤ c.pending.length
 still : 5 ≤ k → k ≤ 7 → c'.time = c.time
 plan : c'.plan = []
end Go.Proofs.YtbenkmihkbjgeaaGreat.Tx
/- SHA-256 over plain lists. -/
namespace Go.Proofs.YtbenkmihkbjgeaaGreat.Sh
def shlw (u : UInt32) (n : Nat) : UInt32 := u <<< UInt32.ofNat n
def shrw (u : UInt32) (n : Nat) : UInt32 := u >>> UInt32.ofNat n
def rotl (u : UInt32) (n : Nat) : UInt32 := shlw u n ||| shrw u (32 - n)
def rot3 (u : UInt32) (a b c : Nat) : UInt32 := rotl u a ^^^ rotl u b ^^^ rotl u c
def rots (u : UInt32) (a b c : Nat) : UInt32 := rotl u a ^^^ rotl u b ^^^ shrw u c
def kList : List UInt32 := [
 0x428a2f98, 0x71374491, 0xb5c0fbcf, 0xe9b5dba5, 0x3956c25b, 0x59f111f1, 0x923f82a4, 0xab1c5ed5,
 0xd807aa98, 0x12835b01, 0x243185be, 0x550c7dc3, 0x72be5d74, 0x80deb1fe, 0x9bdc06a7, 0xc19bf174,
 0xe49b69c1, 0xefbe4786, 0x0fc19dc6, 0x240ca1cc, 0x2de92c6f, 0x4a7484aa, 0x5cb0a9dc, 0x76f988da,
 0x983e5152, 0xa831c66d, 0xb00327c8, 0xbf597fc7, 0xc6e00bf3, 0xd5a79147, 0x06ca6351, 0x14292967,
 0x27b70a85, 0x2e1b2138, 0x4d2c6dfc, 0x53380d13, 0x650a7354, 0x766a0abb, 0x81c2c92e, 0x92722c85,
 0xa2bfe8a1, 0xa81a664b, 0xc24b8b70, 0xc76c51a3, 0xd192e819, 0xd6990624, 0xf40e3585, 0x106aa070,
 0x19a4c116, 0x1e376c08, 0x2748774c, 0x34b0bcb5, 0x391c0cb3, 0x4ed8aa4a, 0x5b9cca4f, 0x682e6ff3,
 0x748f82ee, 0x78a5636f, 0x84c87814, 0x8cc70208, 0x90befffa, 0xa4506ceb, 0xbef9a3f7, 0xc67178f2]
structure St where
 a : UInt32
 b : UInt32
 c : UInt32
 d : UInt32
 e : UInt32
 f : UInt32
 g : UInt32
 h : UInt32
deriving DecidableEq
def St.first : St := ⟨0x6a09e667, 0xbb67ae85, 0x3c6ef372, 0xa54ff53a, 0x510e527f, 0x9b05688c, 0x1f83d9ab, 0x5be0cd19⟩
def St.list (s : St) : List UInt32 := [s.a, s.b, s.c, s.d, s.e, s.f, s.g, s.h]
def wordAt (bs : List UInt8) (i : Nat) : UInt32 :=
 shlw (bs.getD (4 * i) 0).toUInt32 24 ||| shlw (bs.getD (4 * i + 1) 0).toUInt32 16 ||| shlw (bs.getD (4 * i + 2) 0).toUInt32 8 ||| (bs.getD (4 * i + 3) 0).toUInt32
def nextWord (p : List UInt32) (n : Nat) : UInt32 :=
 p.getD (n - 16) 0 + p.getD (n - 7) 0 + rots (p.getD (n - 15) 0) 25 14 3 + rots (p.getD (n - 2) 0) 15 13 10
def words (bs : List UInt8) : Nat → List UInt32
 | 0 => []
 | n + 1 => words bs n ++ [if n < 16 then wordAt bs n else nextWord (words bs n) n]
theorem words_length (bs : List UInt8) (n : Nat) : (words bs n).length = n := by
 induction n with
 | zero => rfl
 | succ n ih => simp [words, ih]
theorem words_getD (bs : List UInt8) (n m j : Nat) (h : j < n) (hm : n ≤ m) : (words bs m).getD j 0 = (words bs n).getD j 0 := by
 induction m with
 | zero => omega
 | succ m ih =>
  by_cases e : n = m + 1
  ·rw [e]
  ·rw [← ih (by omega)]
   simp only [words, List.getD_eq_getElem?_getD]
   rw [List.getElem?_append_left (by rw [words_length]; omega)]
def wd (bs : List UInt8) (j : Nat) : UInt32 := (words bs 64).getD j 0
theorem wd_def (bs : List UInt8) (j : Nat) : wd bs j = (words bs 64).getD j 0 := rfl
theorem wd_last (bs : List UInt8) (n : Nat) (h : n < 64) : wd bs n = if n < 16 then wordAt bs n else nextWord (words bs n) n := by
 unfold wd
 rw [words_getD bs (n + 1) 64 n (by omega) (by omega)]
 have hl := words_length bs n
 simp only [words, List.getD_eq_getElem?_getD]
 rw [List.getElem?_append_right (by omega), hl]
 simp
theorem wd_lo (bs : List UInt8) (n : Nat) (h : n < 16) : wd bs n = wordAt bs n := by
 rw [wd_last bs n (by omega), if_pos h]
theorem wd_hi (bs : List UInt8) (n : Nat) (h : 16 ≤ n) (h2 : n < 64) :
  wd bs n = wd bs (n - 16) + wd bs (n - 7) + rots (wd bs (n - 15)) 25 14 3 + rots (wd bs (n - 2)) 15 13 10 := by
 rw [wd_last bs n h2, if_neg (by omega)]
 unfold nextWord wd
 rw [words_getD bs n 64 (n - 16) (by omega) (by omega), words_getD bs n 64 (n - 7) (by omega) (by omega), words_getD bs n 64 (n - 15) (by omega) (by omega), words_getD bs n 64 (n - 2) (by omega) (by omega)]
def first1 (s : St) (k w : UInt32) : UInt32 :=
 s.h + rot3 s.e 26 21 7 + ((s.e &&& s.f) ^^^ (~~~ s.e &&& s.g)) + k + w
def second1 (s : St) : UInt32 :=
 rot3 s.a 30 19 10 + ((s.a &&& s.b) ^^^ (s.a &&& s.c) ^^^ (s.b &&& s.c))
def step (s : St) (k w : UInt32) : St :=
 ⟨first1 s k w + second1 s, s.a, s.b, s.c, s.d + first1 s k w, s.e, s.f, s.g⟩
def rounds (ws : List UInt32) (s : St) : Nat → St
 | 0 => s
 | n + 1 => step (rounds ws s n) (kList.getD n 0) (ws.getD n 0)
def plus (s t : St) : St := ⟨s.a + t.a, s.b + t.b, s.c + t.c, s.d + t.d, s.e + t.e, s.f + t.f, s.g + t.g, s.h + t.h⟩
def press (s : St) (bs : List UInt8) : St := plus s (rounds (words bs 64) s 64)
def blocks (s : St) (bs : List UInt8) : Nat → St
 | 0 => s
 | n + 1 => press (blocks s bs n) ((bs.drop (64 * n)).take 64)
def be4 (u : UInt32) : List UInt8 := [(shrw u 24).toUInt8, (shrw u 16).toUInt8, (shrw u 8).toUInt8, u.toUInt8]
def outB (s : St) : List UInt8 := be4 s.a ++ be4 s.b ++ be4 s.c ++ be4 s.d ++ be4 s.e ++ be4 s.f ++ be4 s.g ++ be4 s.h
def zeros (n : Nat) : Nat := (119 - n % 64) % 64
def len8 (n : Nat) : List UInt8 :=
 [UInt8.ofNat (8 * n / 2 ^ 56), UInt8.ofNat (8 * n / 2 ^ 48), UInt8.ofNat (8 * n / 2 ^ 40), UInt8.ofNat (8 * n / 2 ^ 32), UInt8.ofNat (8 * n / 2 ^ 24), UInt8.ofNat (8 * n / 2 ^ 16), UInt8.ofNat (8 * n / 2 ^ 8), UInt8.ofNat (8 * n)]
def lastOf (rest : List UInt8) (n : Nat) : List UInt8 := rest ++ 128 :: List.replicate (zeros n) 0 ++ len8 n
def full (bs : List UInt8) : St := blocks St.first bs (bs.length / 64)
def tail64 (bs : List UInt8) : List UInt8 := bs.drop (64 * (bs.length / 64))
def sumOf (bs : List UInt8) : List UInt8 :=
 outB (blocks (full bs) (lastOf (tail64 bs) bs.length) ((lastOf (tail64 bs) bs.length).length / 64))
theorem rounds_zero (ws : List UInt32) (s : St) : rounds ws s 0 = s := rfl
theorem rounds_next (ws : List UInt32) (s : St) (n : Nat) : rounds ws s (n + 1) = step (rounds ws s n) (kList.getD n 0) (ws.getD n 0) := rfl
theorem press_eq (s : St) (bs : List UInt8) : press s bs = plus s (rounds (words bs 64) s 64) := rfl
theorem blocks_zero (s : St) (bs : List UInt8) : blocks s bs 0 = s := rfl
theorem blocks_next (s : St) (bs : List UInt8) (n : Nat) : blocks s bs (n + 1) = press (blocks s bs n) ((bs.drop (64 * n)).take 64) := rfl
theorem full_eq (bs : List UInt8) : full bs = blocks St.first bs (bs.length / 64) := rfl
theorem sumOf_eq (bs : List UInt8) : sumOf bs = outB (blocks (full bs) (lastOf (tail64 bs) bs.length) ((lastOf (tail64 bs) bs.length).length / 64)) := rfl
theorem kList_length : kList.length = 64 := rfl
attribute [irreducible] words wd rounds press blocks full sumOf kList
end Go.Proofs.YtbenkmihkbjgeaaGreat.Sh
/- Words of 32 bits and bytes as the model's integers. -/
namespace Go.Proofs.YtbenkmihkbjgeaaGreat.Sh
open Go.RowKit
def wi (u : UInt32) : Int := (u.toNat : Int)
def bi (u : UInt8) : Int := (u.toNat : Int)
theorem bi_lt (u : UInt8) : 0 ≤ bi u ∧ bi u ≤ 255 := by
 unfold bi; have := u.toNat_lt; omega
theorem bi_inj {a b : UInt8} (h : bi a = bi b) : a = b := by
 unfold bi at h; exact UInt8.toNat_inj.1 (by omega)
theorem wadd (a b : UInt32) : IntKind.u32.wrap (wi a + wi b) = wi (a + b) := by
 unfold wi; rw [IntKind.wrap_u32, UInt32.toNat_add]; omega
theorem wxor (a b : UInt32) : bits .xor .u32 (wi a) (wi b) = wi (a ^^^ b) := by
 unfold wi; rw [u32_xor_nat _ _ (by have := a.toNat_lt; omega) (by have := b.toNat_lt; omega), UInt32.toNat_xor]
theorem wand (a b : UInt32) : bits .and .u32 (wi a) (wi b) = wi (a &&& b) := by
 unfold wi; rw [u32_and_nat _ _ (by have := a.toNat_lt; omega) (by have := b.toNat_lt; omega), UInt32.toNat_and]
theorem wor (a b : UInt32) : bits .or .u32 (wi a) (wi b) = wi (a ||| b) := by
 unfold wi; rw [u32_or_nat _ _ (by have := a.toNat_lt; omega) (by have := b.toNat_lt; omega), UInt32.toNat_or]
theorem toNat_ofNat32 (n : Nat) (h : n < 32) : (UInt32.ofNat n).toNat = n := by
 simp [UInt32.toNat_ofNat']; omega
theorem wshl (u : UInt32) (n : Nat) (h : n < 32) : IntKind.u32.wrap (wi u * 2 ^ n) = wi (shlw u n) := by
 unfold wi shlw
 rw [IntKind.wrap_u32, UInt32.toNat_shiftLeft, toNat_ofNat32 n h, Nat.mod_eq_of_lt h, Nat.shiftLeft_eq]
 have : ((u.toNat : Int) * 2 ^ n) = ((u.toNat * 2 ^ n : Nat) : Int) := by simp
 rw [this]
 omega
theorem wshr (u : UInt32) (n : Nat) (h : n < 32) : wi u / 2 ^ n = wi (shrw u n) := by
 unfold wi shrw
 rw [UInt32.toNat_shiftRight, toNat_ofNat32 n h, Nat.mod_eq_of_lt h, Nat.shiftRight_eq_div_pow]
 simp
theorem wnot (a : UInt32) : bits .xor .u32 IntKind.u32.max (wi a) = wi (~~~ a) := by
 unfold wi
 have hm : IntKind.u32.max = ((4294967295 : Nat) : Int) := by decide
 rw [hm, u32_xor_nat _ _ (by omega) (by have := a.toNat_lt; omega)]
 congr 1
theorem wbyte (b : UInt8) : IntKind.u32.wrap (bi b) = wi b.toUInt32 := by
 unfold bi wi; rw [IntKind.wrap_u32, UInt8.toNat_toUInt32]; have := b.toNat_lt; omega
attribute [irreducible] wi bi
theorem add_at (a : Addr) (n : Nat) (h : 0 < n) : a.add n = ⟨a.block, a.off + n, none⟩ := by
 unfold Addr.add; rw [if_neg (by omega)]
set_option maxHeartbeats 400000 in
theorem rot_any (u : UInt32) (x : Int) (n : Nat) (hn : bits BinOp.and IntKind.u64 (IntKind.u64.wrap x) 31 = (n : Int)) (h1 : 0 < n) (h2 : n < 32) (w : World) :
  Calls Tryz.prog 262 #[.int .u32 (wi u), .int .i64 x] w fun e w' => e = .returned (.int .u32 (wi (rotl u n))) ∧ w = w' := by
 have r1 : wi u * 2 ^ n % 4294967296 = wi (shlw u n) := by rw [← wshl u n h2, IntKind.wrap_u32]
 have r2 := wshr u (32 - n) (by omega)
 have e1 : IntKind.u64.wrap (32 - (n : Int)) = ((32 - n : Nat) : Int) := by rw [IntWalk.u64_in _ (by omega)]; omega
 have e2 := wor (shlw u n) (shrw u (32 - n))
 have E : Hid (rotl u n = shlw u n ||| shrw u (32 - n)) := rfl
 go_enter Tryz.func262, Tryz.ntmps262
 go_wp2
 go_ret
 exact ⟨by rw [E.out]; rfl, rfl⟩
set_option maxHeartbeats 400000 in
theorem turned_any (u : UInt32) (x y z : Int) (a b c : Nat) (hx : 0 < x ∧ x < 32) (hy : 0 < y ∧ y < 32) (hz : 0 < z ∧ z < 32)
  (ha : bits BinOp.and IntKind.u64 (IntKind.u64.wrap (-x)) 31 = (a : Int)) (hb : bits BinOp.and IntKind.u64 (IntKind.u64.wrap (-y)) 31 = (b : Int)) (hc : bits BinOp.and IntKind.u64 (IntKind.u64.wrap (-z)) 31 = (c : Int))
  (h1 : (0 < a ∧ a < 32) ∧ (0 < b ∧ b < 32) ∧ (0 < c ∧ c < 32)) (w : World) :
  Calls Tryz.prog 252 #[.int .u32 (wi u), .int .i64 x, .int .i64 y, .int .i64 z] w fun e w' => e = .returned (.int .u32 (wi (rot3 u a b c))) ∧ w = w' := by
 have e1 := wxor (rotl u a) (rotl u b)
 have e2 := wxor (rotl u a ^^^ rotl u b) (rotl u c)
 have E : Hid (rot3 u a b c = rotl u a ^^^ rotl u b ^^^ rotl u c) := rfl
 have HA := Lib.hid ha
 have HB := Lib.hid hb
 have HC := Lib.hid hc
 clear ha hb hc
 go_enter Tryz.func252, Tryz.ntmps252
 go_wp2_with fail
 refine (rot_any u _ a HA.out h1.1.1 h1.1.2 _).mono ?_
 rintro e w' ⟨rfl, rfl⟩
 go_wp2_with fail
 refine (rot_any u _ b HB.out h1.2.1.1 h1.2.1.2 _).mono ?_
 rintro e w' ⟨rfl, rfl⟩
 go_wp2_with fail
 refine (rot_any u _ c HC.out h1.2.2.1 h1.2.2.2 _).mono ?_
 rintro e w' ⟨rfl, rfl⟩
 go_wp2_with fail
 go_ret
 exact ⟨by rw [E.out]; rfl, rfl⟩
set_option maxHeartbeats 400000 in
theorem shifted_any (u : UInt32) (x y z : Int) (a b c : Nat) (hx : 0 < x ∧ x < 32) (hy : 0 < y ∧ y < 32) (hz : z = (c : Int))
  (ha : bits BinOp.and IntKind.u64 (IntKind.u64.wrap (-x)) 31 = (a : Int)) (hb : bits BinOp.and IntKind.u64 (IntKind.u64.wrap (-y)) 31 = (b : Int))
  (h1 : (0 < a ∧ a < 32) ∧ (0 < b ∧ b < 32) ∧ (0 < c ∧ c < 32)) (w : World) :
  Calls Tryz.prog 261 #[.int .u32 (wi u), .int .i64 x, .int .i64 y, .int .i64 z] w fun e w' => e = .returned (.int .u32 (wi (rots u a b c))) ∧ ∃ k, w' = w.drewN k := by
 subst hz
 have e1 := wxor (rotl u a) (rotl u b)
 have e2 := wxor (rotl u a ^^^ rotl u b) (shrw u c)
 have r2 := wshr u c h1.2.2.2
 have E : Hid (rots u a b c = rotl u a ^^^ rotl u b ^^^ (shrw u c)) := rfl
 have HA := Lib.hid ha
 have HB := Lib.hid hb
 clear ha hb
 go_enter Tryz.func261, Tryz.ntmps261
 go_wp2_with fail
 go_quiet (first | (go_at_call_of 262 (Value.int .i64 (-x)); exact Calls.quiet_of_same ((rot_any u _ a HA.out h1.1.1 h1.1.2 _).mono fun _ _ h => ⟨h.1, h.2.symm⟩)) | (go_at_call 262; exact Calls.quiet_of_same ((rot_any u _ b HB.out h1.2.1.1 h1.2.1.2 _).mono fun _ _ h => ⟨h.1, h.2.symm⟩)))
 go_wp2_with fail
 go_ret
 exact ⟨by rw [E.out]; rfl, _, rfl⟩
end Go.Proofs.YtbenkmihkbjgeaaGreat.Sh
