/- Texts put together: YShU0, YShU1, YRf1. -/
import Derived.Test.YtlgmbljfjfcpoaaGreatQt32
import Derived.Test.YtlgmbljfjfcpoaaGreatQt25
/- Digits; texts that are bytes. -/
namespace Go.Proofs.YtlgmbljfjfcpoaaGreat.Sh
open Go.RowKit

/-- A digit's number; none: it is no digit. -/
def dv (c : UInt8) : Option UInt8 := if 48 ≤ c ∧ c ≤ 57 then some (c - 48) else if 97 ≤ c ∧ c ≤ 102 then some (c - 87) else none
theorem dv_cases (c : UInt8) : (bi c < 48 ∧ dv c = none) ∨ (48 ≤ bi c ∧ bi c ≤ 57 ∧ dv c = some (UInt8.ofNat (bi c - 48).toNat)) ∨ (57 < bi c ∧ bi c < 97 ∧ dv c = none) ∨
    (97 ≤ bi c ∧ bi c ≤ 102 ∧ dv c = some (UInt8.ofNat (bi c - 87).toNat)) ∨ (102 < bi c ∧ dv c = none) := by
  obtain ⟨n, hn, rfl⟩ : ∃ n, n < 256 ∧ c = UInt8.ofNat n := ⟨c.toNat, c.toNat_lt, by simp⟩
  have hb : bi (UInt8.ofNat n) = (n : Int) := by unfold bi; rw [UInt8.toNat_ofNat']; omega
  rw [hb]
  have key : ∀ n, n < 256 → (n < 48 ∧ dv (UInt8.ofNat n) = none) ∨ (48 ≤ n ∧ n ≤ 57 ∧ dv (UInt8.ofNat n) = some (UInt8.ofNat (n - 48))) ∨ (57 < n ∧ n < 97 ∧ dv (UInt8.ofNat n) = none) ∨
    (97 ≤ n ∧ n ≤ 102 ∧ dv (UInt8.ofNat n) = some (UInt8.ofNat (n - 87))) ∨ (102 < n ∧ dv (UInt8.ofNat n) = none) := by decide +kernel
  rcases key n hn with ⟨h1, h2⟩ | ⟨h1, h2, h3⟩ | ⟨h1, h2, h3⟩ | ⟨h1, h2, h3⟩ | ⟨h1, h2⟩
  · exact .inl ⟨by omega, h2⟩
  · exact .inr (.inl ⟨by omega, by omega, by rw [h3]; congr 2; omega⟩)
  · exact .inr (.inr (.inl ⟨by omega, by omega, h3⟩))
  · exact .inr (.inr (.inr (.inl ⟨by omega, by omega, by rw [h3]; congr 2; omega⟩)))
  · exact .inr (.inr (.inr (.inr ⟨by omega, h2⟩)))
theorem bi_sub (x : Int) (h0 : 0 ≤ x) (h1 : x ≤ 255) : bi (UInt8.ofNat x.toNat) = x := by
  unfold bi; rw [UInt8.toNat_ofNat']; omega

set_option maxHeartbeats 400000 in
/-- digitValue at no digit. -/
theorem dig_no (c : UInt8) (w : World) (h : dv c = none) : Calls Tryz.prog 73 #[.int .u8 (bi c)] w fun e w' => e = .returned (.tuple #[.int .u8 0, .bool false]) ∧ w = w' := by
  have hb := bi_lt c
  rcases dv_cases c with ⟨h1, _⟩ | ⟨_, _, h2⟩ | ⟨h1, h2, _⟩ | ⟨_, _, h2⟩ | ⟨h1, _⟩
  · clear h
    generalize bi c = x at *
    go_enter Tryz.func73, Tryz.ntmps73
    go_wp2
    go_ret2
    exact ⟨rfl, rfl⟩
  · rw [h] at h2; cases h2
  · clear h
    generalize bi c = x at *
    go_enter Tryz.func73, Tryz.ntmps73
    go_wp2
    go_ret2
    exact ⟨rfl, rfl⟩
  · rw [h] at h2; cases h2
  · clear h
    generalize bi c = x at *
    go_enter Tryz.func73, Tryz.ntmps73
    go_wp2
    go_ret2
    exact ⟨rfl, rfl⟩
set_option maxHeartbeats 400000 in
theorem dig_yes (c v : UInt8) (w : World) (h : dv c = some v) : Calls Tryz.prog 73 #[.int .u8 (bi c)] w fun e w' => e = .returned (.tuple #[.int .u8 (bi v), .bool true]) ∧ w = w' := by
  have hb := bi_lt c
  rcases dv_cases c with ⟨_, h2⟩ | ⟨h1, h1', h2⟩ | ⟨_, _, h2⟩ | ⟨h1, h1', h2⟩ | ⟨_, h2⟩
  · rw [h] at h2; cases h2
  · rw [h] at h2
    injection h2 with h2
    subst h2
    clear h
    generalize bi c = x at *
    have HX := Lib.hid (bi_sub (x - 48) (by omega) (by omega))
    go_enter Tryz.func73, Tryz.ntmps73
    go_wp2
    go_ret2
    exact ⟨by rw [HX.out]; rfl, rfl⟩
  · rw [h] at h2; cases h2
  · rw [h] at h2
    injection h2 with h2
    subst h2
    clear h
    generalize bi c = x at *
    have HX := Lib.hid (bi_sub (x - 87) (by omega) (by omega))
    have e1 : x - 97 + 10 = x - 87 := by omega
    go_enter Tryz.func73, Tryz.ntmps73
    go_wp2
    go_ret2
    exact ⟨by rw [HX.out, ← e1]; rfl, rfl⟩
  · rw [h] at h2; cases h2

theorem str_size (cs : List UInt8) : (str cs).size = cs.length := by
  unfold str ByteArray.size
  simp
theorem index_str (cs : List UInt8) (k : Nat) (hk : k < cs.length) (w : World) : (Instr.index 9 (.string (str cs)) (.int .i64 (k : Int))).run Tryz.prog w = .ok (.int .u8 (bi (cs.getD k 0))) w := by
  have hsz := str_size cs
  have hg : (str cs)[k]? = some cs[k] := getElem?_pos (str cs) k (by rw [hsz]; exact hk)
  simp [Instr.index, go_sem]
  rw [hg, List.getElem?_eq_getElem hk]
  unfold bi
  rfl

/-- Is it an even number of digits? -/
def hexOk (cs : List UInt8) : Bool := cs.length % 2 == 0 && cs.all (fun c => (dv c).isSome)
theorem hexOk_at {cs : List UInt8} (h : hexOk cs = true) (k : Nat) (hk : k < cs.length) : ∃ v, dv (cs.getD k 0) = some v := by
  unfold hexOk at h
  rw [Bool.and_eq_true] at h
  have := List.all_eq_true.1 h.2 cs[k] (List.getElem_mem hk)
  rw [List.getD_eq_getElem?_getD, List.getElem?_eq_getElem hk]
  exact Option.isSome_iff_exists.1 this
theorem hexOk_even {cs : List UInt8} (h : hexOk cs = true) : cs.length % 2 = 0 := by
  unfold hexOk at h
  rw [Bool.and_eq_true, beq_iff_eq] at h
  exact h.1
theorem hexOk_of {cs : List UInt8} (h : cs.length % 2 = 0) (hd : ∀ k, k < cs.length → ∃ v, dv (cs.getD k 0) = some v) : hexOk cs = true := by
  unfold hexOk
  rw [Bool.and_eq_true, beq_iff_eq]
  refine ⟨h, List.all_eq_true.2 fun c hc => ?_⟩
  obtain ⟨k, hk, rfl⟩ := List.getElem_of_mem hc
  obtain ⟨v, hv⟩ := hd k hk
  rw [List.getD_eq_getElem?_getD, List.getElem?_eq_getElem hk] at hv
  rw [show dv cs[k] = some v from hv]
  rfl

set_option maxHeartbeats 400000 in
/-- isHex. -/
theorem ishex_yes (cs : List UInt8) (w : World) (h : hexOk cs = true) (hl : cs.length ≤ 1000000) : Calls Tryz.prog 44 #[.string (str cs)] w fun e w' => e = .returned (.bool true) ∧ w = w' := by
  have hev := hexOk_even h
  have hsz := str_size cs
  have H := Lib.hid h
  obtain ⟨l, hL⟩ : ∃ l, cs.length = l := ⟨_, rfl⟩
  rw [hL] at hsz hev hl
  have HL := Lib.hid hL
  clear h hL
  have e1 : (l : Int) % 2 = 0 := by omega
  have e2 : (l : Int).tmod 2 = 0 := by rw [Int.tmod_eq_emod_of_nonneg (by omega)]; omega
  have HEV := Lib.hid hev
  clear hev
  go_enter Tryz.func44, Tryz.ntmps44
  go_wp2
  go_loop [12] (fun i => ∃ k : Nat, k ≤ l ∧ i = .int .i64 k) (fun i => l - (intOf i).toNat)
  case atStart => exact ⟨0, by omega, rfl⟩
  case round =>
    obtain ⟨k, hk, rfl⟩ := hrel
    by_cases hlt : k < l
    · have hidx := index_str cs k (by rw [HL.out]; exact hlt)
      obtain ⟨v, hv⟩ := hexOk_at H.out k (by rw [HL.out]; exact hlt)
      generalize cs.getD k 0 = x at *
      have HV := Lib.hid hv
      clear hv
      go_wp2_with (go_at_call 73; refine (dig_yes x v _ HV.out).mono ?_; rintro e w' ⟨rfl, rfl⟩)
      go_round
      case rel => exact ⟨k + 1, by omega, by go_num⟩
      case measure => simp [intOf]; omega
    · obtain rfl : k = l := by omega
      go_wp2
      go_ret
      exact ⟨rfl, rfl⟩

set_option maxHeartbeats 400000 in
theorem ishex_no (cs : List UInt8) (w : World) (h : hexOk cs = false) (hl : cs.length ≤ 1000000) : Calls Tryz.prog 44 #[.string (str cs)] w fun e w' => e = .returned (.bool false) ∧ w = w' := by
  have hsz := str_size cs
  have H := Lib.hid h
  obtain ⟨l, hL⟩ : ∃ l, cs.length = l := ⟨_, rfl⟩
  rw [hL] at hsz hl
  have HL := Lib.hid hL
  clear h hL
  by_cases hev : l % 2 = 0
  · have e1 : (l : Int) % 2 = 0 := by omega
    have e2 : (l : Int).tmod 2 = 0 := by rw [Int.tmod_eq_emod_of_nonneg (by omega)]; omega
    have HEV := Lib.hid hev
    clear hev
    go_enter Tryz.func44, Tryz.ntmps44
    go_wp2
    go_loop [12] (fun i => ∃ k : Nat, k ≤ l ∧ i = .int .i64 k ∧ ∀ j, j < k → ∃ v, dv (cs.getD j 0) = some v) (fun i => l - (intOf i).toNat)
    case atStart => exact ⟨0, by omega, rfl, fun j hj => by omega⟩
    case round =>
      obtain ⟨k, hk, rfl, hall⟩ := hrel
      have HALL := Lib.hid hall
      clear hall
      by_cases hlt : k < l
      · have hidx := index_str cs k (by rw [HL.out]; exact hlt)
        obtain ⟨x, hx⟩ : ∃ x, cs.getD k 0 = x := ⟨_, rfl⟩
        rw [hx] at hidx
        have HX := Lib.hid hx
        clear hx
        cases hv : dv x with
        | none =>
          have HV := Lib.hid hv
          clear hv
          go_wp2_with (go_at_call 73; refine (dig_no x _ HV.out).mono ?_; rintro e w' ⟨rfl, rfl⟩)
          go_ret
          exact ⟨rfl, rfl⟩
        | some v =>
          have HV := Lib.hid hv
          clear hv
          go_wp2_with (go_at_call 73; refine (dig_yes x v _ HV.out).mono ?_; rintro e w' ⟨rfl, rfl⟩)
          go_round
          case rel =>
            refine ⟨k + 1, by omega, by go_num, fun j hj => ?_⟩
            by_cases e : j = k
            · rw [e, HX.out]; exact ⟨v, HV.out⟩
            · exact HALL.out j (by omega)
          case measure => simp [intOf]; omega
      · obtain rfl : k = l := by omega
        have hh := H.out
        rw [hexOk_of (by rw [HL.out]; exact HEV.out) (by rw [HL.out]; exact HALL.out)] at hh
        cases hh
  · have e1 : ((l : Int) % 2 != 0) = true := by rw [bne_iff_ne]; omega
    have e2 : ((l : Int) % 2 == 0) = false := beq_eq_false_iff_ne.2 (by omega)
    clear hev
    go_enter Tryz.func44, Tryz.ntmps44
    go_wp2
    go_ret
    exact ⟨rfl, rfl⟩
end Go.Proofs.YtlgmbljfjfcpoaaGreat.Sh
/- Unhex, Valid. -/
namespace Go.Proofs.YtlgmbljfjfcpoaaGreat.Sh
open Go.RowKit

def dvv (c : UInt8) : UInt8 := (dv c).getD 0
def un2 (a b : UInt8) : UInt8 := UInt8.ofNat (16 * (dvv a).toNat + (dvv b).toNat)
def unhexN (cs : List UInt8) (k : Nat) : List UInt8 := (List.range k).map (fun i => un2 (cs.getD (2 * i) 0) (cs.getD (2 * i + 1) 0))
def unhexL (cs : List UInt8) : List UInt8 := unhexN cs (cs.length / 2)
/-- What Unhex leaves of a text that is some bytes' Hex. -/
def UnPost (w : World) (bs : List UInt8) (e : Ending) (w' : World) : Prop := ∃ v, e = .returned (.tuple #[v, .bool true]) ∧ Own w' w.heap.size v bs ∧ Below w.heap.size w w'

theorem valid_any (cs : List UInt8) (t : Bool) (ht : (cs.length == 64 && hexOk cs) = t) (w : World) (hl : cs.length ≤ 1000000) : Calls Tryz.prog 18 #[.string (str cs)] w fun e w' => e = .returned (.bool t) ∧ w = w' := by
  have hsz := str_size cs
  by_cases h64 : cs.length = 64
  · rw [h64] at hsz
    rw [beq_iff_eq.2 h64, Bool.true_and] at ht
    have HT := Lib.hid ht
    clear ht h64
    go_enter Tryz.func18, Tryz.ntmps18
    go_wp2_with fail
    cases t with
    | false =>
      refine (ishex_no cs _ HT.out hl).mono ?_
      rintro e w' ⟨rfl, rfl⟩
      go_wp2_with fail
      go_ret
      exact ⟨rfl, rfl⟩
    | true =>
      refine (ishex_yes cs _ HT.out hl).mono ?_
      rintro e w' ⟨rfl, rfl⟩
      go_wp2_with fail
      go_ret
      exact ⟨rfl, rfl⟩
  · rw [beq_eq_false_iff_ne.2 h64, Bool.false_and] at ht
    subst ht
    obtain ⟨l, hL⟩ : ∃ l, cs.length = l := ⟨_, rfl⟩
    rw [hL] at hsz h64
    have e1 : ((l : Int) == 64) = false := beq_eq_false_iff_ne.2 (by omega)
    clear hL
    go_enter Tryz.func18, Tryz.ntmps18
    go_wp2_with fail
    go_ret
    exact ⟨rfl, rfl⟩

/-! Plain: there and back. -/
theorem dv_hexd (n : UInt8) (h : n.toNat < 16) : dv (hexd n) = some n := by
  obtain ⟨m, hm, rfl⟩ : ∃ m, m < 16 ∧ n = UInt8.ofNat m := ⟨n.toNat, h, by simp⟩
  have key : ∀ m, m < 16 → dv (hexd (UInt8.ofNat m)) = some (UInt8.ofNat m) := by decide +kernel
  exact key m hm
theorem hexL_cons (x : UInt8) (r : List UInt8) : hexL (x :: r) = hexd (hi4 x) :: hexd (lo4 x) :: hexL r := rfl
theorem hexOk_hexL (bs : List UInt8) : hexOk (hexL bs) = true := by
  refine hexOk_of (by rw [hexL_length]; omega) ?_
  induction bs with
  | nil => intro k hk; cases hk
  | cons x r ih =>
    intro k hk
    rw [hexL_cons] at hk ⊢
    match k with
    | 0 => exact ⟨_, dv_hexd _ (hi4_lt x)⟩
    | 1 => exact ⟨_, dv_hexd _ (lo4_lt x)⟩
    | k + 2 => exact ih k (by simpa using hk)
end Go.Proofs.YtlgmbljfjfcpoaaGreat.Sh
/- Package refs, as plain data. (No Go in it.) -/
set_option linter.unusedVariables false
set_option linter.unusedSimpArgs false
namespace Go.Proofs.YtlgmbljfjfcpoaaGreat.Tx
open Go.RowKit Go.Proofs.YtlgmbljfjfcpoaaGreat.Sh

/-- "s/r/" and a name; "s/l/" and a name. -/
def refP (n : List UInt8) : List UInt8 := 115 :: 47 :: 114 :: 47 :: n
def lockP (n : List UInt8) : List UInt8 := 115 :: 47 :: 108 :: 47 :: n
def validB (cs : List UInt8) : Bool := cs.length == 64 && hexOk cs
theorem valid_len {cs : List UInt8} (h : validB cs = true) : cs.length = 64 := by
  unfold validB at h
  simp at h
  exact h.1
/-- What is expected is there. -/
def expE (c : CSt) (n old : List UInt8) : Int :=
  if redE c (refP n) = 7 then (if old = [] then 0 else 13)
  else if redE c (refP n) ≠ 0 then redE c (refP n)
  else if old = [] ∨ (redF c (refP n)).data ≠ old ++ [10] then 13 else 0
def prepE (c : CSt) (n old : List UInt8) : Int := if expE c n old = 0 then bgE (bgC c).c else expE c n old
def prepC (c : CSt) (n old : List UInt8) : CSt := if expE c n old = 0 then synC (bgC c).c else (bgC c).c
def slE (c : CSt) (n old : List UInt8) : Int :=
  if prepE c n old = 0 then
    (if movE (prepC c n old) (lockP n) (refP n) false = 0 then bgE (movC (prepC c n old) (lockP n) (refP n) false) else movE (prepC c n old) (lockP n) (refP n) false)
  else prepE c n old
def slC (c : CSt) (n old : List UInt8) : CSt :=
  if prepE c n old = 0 then
    (if movE (prepC c n old) (lockP n) (refP n) false = 0 then synC (movC (prepC c n old) (lockP n) (refP n) false) else movC (prepC c n old) (lockP n) (refP n) false)
  else remC (prepC c n old) (lockP n)
def setE (c : CSt) (n old new : List UInt8) : Int :=
  if nameB n = false then 6 else if validB new = false ∨ (old ≠ [] ∧ validB old = false) then 1
  else if crtE c (lockP n) 1 (new ++ [10]) true = 0 then slE (crtC c (lockP n) 1 (new ++ [10]) true) n old
  else if crtE c (lockP n) 1 (new ++ [10]) true = 8 then 13 else crtE c (lockP n) 1 (new ++ [10]) true
def setC (c : CSt) (n old new : List UInt8) : CSt :=
  if nameB n = false then c else if validB new = false ∨ (old ≠ [] ∧ validB old = false) then c
  else if crtE c (lockP n) 1 (new ++ [10]) true = 0 then slC (crtC c (lockP n) 1 (new ++ [10]) true) n old
  else crtC c (lockP n) 1 (new ++ [10]) true
/-- The hash in a ref's text. -/
def hinB (d : List UInt8) : Bool := [10].isSuffixOf d && validB (d.take (d.length - 1))
def hinV (d : List UInt8) : List UInt8 := if hinB d = true then d.take (d.length - 1) else []
def getE (c : CSt) (n : List UInt8) : Int :=
  if nameB n = false then 6 else if redE c (refP n) ≠ 0 then redE c (refP n) else if hinB (redF c (refP n)).data = false then 4 else 0
def getV (c : CSt) (n : List UInt8) : List UInt8 := if getE c n = 0 then hinV (redF c (refP n)).data else []
def getC (c : CSt) (n : List UInt8) : CSt := if nameB n = false then c else (bgC c).c
def delE (c : CSt) (n old : List UInt8) : Int :=
  if nameB n = false then 6 else if validB old = false then 1
  else if redE c (refP n) ≠ 0 then redE c (refP n) else if (redF c (refP n)).data ≠ old ++ [10] then 13
  else if remE (bgC c).c (refP n) = 0 then bgE (remC (bgC c).c (refP n)) else remE (bgC c).c (refP n)
def delC (c : CSt) (n old : List UInt8) : CSt :=
  if nameB n = false then c else if validB old = false then c
  else if redE c (refP n) ≠ 0 then (bgC c).c else if (redF c (refP n)).data ≠ old ++ [10] then (bgC c).c
  else if remE (bgC c).c (refP n) = 0 then synC (remC (bgC c).c (refP n)) else remC (bgC c).c (refP n)
/-- The last name of a path that stands just in dir. -/
def lastN (dir p : List UInt8) : List UInt8 := if (dir ++ [47]).isPrefixOf p then p.drop (dir.length + 1) else p
def nmsL (dir : List UInt8) (ps : List (List UInt8)) : List (List UInt8) := (ps.map (lastN dir)).filter nameB
def rlsE (c : CSt) (dir : List UInt8) : Int := lisE c dir
def rlsV (c : CSt) (dir : List UInt8) : List (List UInt8) := if lisE c dir = 0 then nmsL dir (lisO c dir) else []
def unlC : CSt → List (List UInt8) → CSt
  | c, [] => c
  | c, n :: l => if remE c (lockP n) = 0 then unlC (remC c (lockP n)) l else remC c (lockP n)
def unlE : CSt → List (List UInt8) → Int
  | _, [] => 0
  | c, n :: l => if remE c (lockP n) = 0 then unlE (remC c (lockP n)) l else remE c (lockP n)

theorem GoC.upto {c : CSt} {i j : Nat} (h : GoC c i) (hij : i ≤ j) : GoC c j := ⟨h.fits.more (by omega), ⟨h.calls.1, by have := h.calls.2; omega⟩, h.plan, h.paths⟩
theorem GoC.prep {c : CSt} {i : Nat} (h : GoC c i) (n old : List UInt8) : GoC (prepC c n old) (i + 2) := by
  unfold prepC
  split
  · exact h.bg.syn
  · exact h.bg.upto (by omega)
theorem GoC.sl {c : CSt} {i : Nat} (h : GoC c i) (n old : List UInt8) : GoC (slC c n old) (i + 4) := by
  unfold slC
  split
  · split
    · exact ((h.prep n old).mov _ _ _).syn
    · exact ((h.prep n old).mov _ _ _).upto (by omega)
  · exact ((h.prep n old).rem _).upto (by omega)
theorem GoC.set_ {c : CSt} {i : Nat} (h : GoC c i) (n old new : List UInt8) : GoC (setC c n old new) (i + 5) := by
  unfold setC
  split
  · exact h.upto (by omega)
  · split
    · exact h.upto (by omega)
    · split
      · exact (h.crt _ _ _ _).sl n old
      · exact (h.crt _ _ _ _).upto (by omega)
end Go.Proofs.YtlgmbljfjfcpoaaGreat.Tx
