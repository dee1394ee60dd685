/- Texts put together: ShW0, ShW1, ShW2, ShH0, ShW3, ShW4, ShW5. -/
import Derived.Test.YtcmlofgkcalhnaaRows
import Derived.Test.YtcmlofgkcalhnaaQo02
import Derived.Test.YtcmlofgkcalhnaaQo01
import Derived.WalkKit
import Derived.ProofKit
import Derived.OpenShut
import Derived.BigQuiet
import Derived.Deep.QuietTactic
import Derived.Lib.Hide
import Derived.Deep.RegionWith
import Derived.StillTailTactics
import Derived.Deep.DeepFit
import Derived.Deep.WholeRow
import Derived.Deep.MidRow
import Derived.Deep.AppendLies
import Derived.Deep.Draws
import Derived.Maps.AppendAt
import Derived.Deep.RegionHeld3
import Derived.Deep.OwnRows
import Derived.Lib.SlBytesConst
import Derived.Defers
import Derived.Laws.Pointers
import Derived.Laws.LoneSync
import Derived.RegionTactic
import Derived.RegionCalls
import Derived.ChangeAlike
/- Words of 32 bits and bytes as the model's integers. -/
namespace Go.Proofs.Ytcmlofgkcalhnaa.Sh
open Go.RowKit

/-- A word's number. -/
def wi (u : UInt32) : Int := (u.toNat : Int)
/-- A byte's number. -/
def bi (u : UInt8) : Int := (u.toNat : Int)
theorem wi_lt (u : UInt32) : 0 ≤ wi u ∧ wi u ≤ 4294967295 := by
  unfold wi; have := u.toNat_lt; omega
theorem bi_lt (u : UInt8) : 0 ≤ bi u ∧ bi u ≤ 255 := by
  unfold bi; have := u.toNat_lt; omega
theorem wi_inj {a b : UInt32} (h : wi a = wi b) : a = b := by
  unfold wi at h; exact UInt32.toNat_inj.1 (by omega)
theorem bi_inj {a b : UInt8} (h : bi a = bi b) : a = b := by
  unfold bi at h; exact UInt8.toNat_inj.1 (by omega)
theorem wadd (a b : UInt32) : IntKind.u32.wrap (wi a + wi b) = wi (a + b) := by
  unfold wi; rw [IntKind.wrap_u32, UInt32.toNat_add]; omega
theorem wxor (a b : UInt32) : bits .xor .u32 (wi a) (wi b) = wi (a ^^^ b) := by
  unfold wi; rw [u32_xor_nat _ _ (by have := a.toNat_lt; omega) (by have := b.toNat_lt; omega), UInt32.toNat_xor]
theorem wand (a b : UInt32) : bits .and .u32 (wi a) (wi b) = wi (a &&& b) := by
  unfold wi; rw [u32_and_nat _ _ (by have := a.toNat_lt; omega) (by have := b.toNat_lt; omega), UInt32.toNat_and]
theorem wor (a b : UInt32) : bits .or .u32 (wi a) (wi b) = wi (a ||| b) := by
  unfold wi; rw [u32_or_nat _ _ (by have := a.toNat_lt; omega) (by have := b.toNat_lt; omega), UInt32.toNat_or]


theorem toNat_ofNat32 (n : Nat) (h : n < 32) : (UInt32.ofNat n).toNat = n := by
  simp [UInt32.toNat_ofNat']; omega
theorem wshl (u : UInt32) (n : Nat) (h : n < 32) : IntKind.u32.wrap (wi u * 2 ^ n) = wi (shlw u n) := by
  unfold wi shlw
  rw [IntKind.wrap_u32, UInt32.toNat_shiftLeft, toNat_ofNat32 n h, Nat.mod_eq_of_lt h, Nat.shiftLeft_eq]
  have : ((u.toNat : Int) * 2 ^ n) = ((u.toNat * 2 ^ n : Nat) : Int) := by simp
  rw [this]
  omega
theorem wshr (u : UInt32) (n : Nat) (h : n < 32) : wi u / 2 ^ n = wi (shrw u n) := by
  unfold wi shrw
  rw [UInt32.toNat_shiftRight, toNat_ofNat32 n h, Nat.mod_eq_of_lt h, Nat.shiftRight_eq_div_pow]
  simp

theorem wnot (a : UInt32) : bits .xor .u32 IntKind.u32.max (wi a) = wi (~~~ a) := by
  unfold wi
  have hm : IntKind.u32.max = ((4294967295 : Nat) : Int) := by decide
  rw [hm, u32_xor_nat _ _ (by omega) (by have := a.toNat_lt; omega)]
  congr 1
theorem wbyte (b : UInt8) : IntKind.u32.wrap (bi b) = wi b.toUInt32 := by
  unfold bi wi; rw [IntKind.wrap_u32, UInt8.toNat_toUInt32]; have := b.toNat_lt; omega
attribute [irreducible] wi bi
theorem add_at (a : Addr) (n : Nat) (h : 0 < n) : a.add n = ⟨a.block, a.off + n, none⟩ := by
  unfold Addr.add; rw [if_neg (by omega)]

end Go.Proofs.Ytcmlofgkcalhnaa.Sh
/- The schedule of a block's words. -/
namespace Go.Proofs.Ytcmlofgkcalhnaa.Sh
open Go.RowKit

def wv (u : UInt32) : Value := .int .u32 (wi u)
def bv (u : UInt8) : Value := .int .u8 (bi u)

def isWord : Value → Bool
  | .int .u32 _ => true
  | _ => false
theorem isWord_of {v : Value} (h : isWord v = true) : ∃ u, v = .int .u32 u := by
  unfold isWord at h
  split at h
  · exact ⟨_, rfl⟩
  · cases h
theorem words_size (bs : List UInt8) : ((words bs 64).map wv).toArray.size = 64 := by simp [words_length]
theorem words_one (bs : List UInt8) : ((words bs 64).map wv).toArray.all (·.oneCell') = true := by
  rw [Array.all_eq_true_iff_forall_mem]
  intro v hv
  simp only [List.mem_toArray, List.mem_map] at hv
  obtain ⟨u, _, rfl⟩ := hv
  rfl
theorem keep1 {w : World} {g i k n : Nat} {x y : Value} (hne : i ≠ k) (h : w.cell? ⟨g, i, none⟩ = some x) : ((w.drewN n).setCell ⟨g, k, none⟩ y).cell? ⟨g, i, none⟩ = some x := by
  rw [World.cell?_setCell_other _ _ _ _ (by intro e; injection e with _ e2; exact hne e2.symm)]
  exact h
theorem keep4 (w : World) (g i1 i2 i3 i4 k n : Nat) (x1 x2 x3 x4 : Value) (y : Value) (n1 : i1 ≠ k) (n2 : i2 ≠ k) (n3 : i3 ≠ k) (n4 : i4 ≠ k)
    (h1 : w.cell? ⟨g, i1, none⟩ = some x1) (h2 : w.cell? ⟨g, i2, none⟩ = some x2) (h3 : w.cell? ⟨g, i3, none⟩ = some x3) (h4 : w.cell? ⟨g, i4, none⟩ = some x4) :
    ((w.drewN n).setCell ⟨g, k, none⟩ y).cell? ⟨g, i1, none⟩ = some x1 ∧ ((w.drewN n).setCell ⟨g, k, none⟩ y).cell? ⟨g, i2, none⟩ = some x2 ∧ ((w.drewN n).setCell ⟨g, k, none⟩ y).cell? ⟨g, i3, none⟩ = some x3 ∧ ((w.drewN n).setCell ⟨g, k, none⟩ y).cell? ⟨g, i4, none⟩ = some x4 :=
  ⟨keep1 n1 h1, keep1 n2 h2, keep1 n3 h3, keep1 n4 h4⟩

end Go.Proofs.Ytcmlofgkcalhnaa.Sh
/- One block folded in. -/
namespace Go.Proofs.Ytcmlofgkcalhnaa.Sh
open Go.RowKit

def stv (s : St) : Value := .agg #[wv s.a, wv s.b, wv s.c, wv s.d, wv s.e, wv s.f, wv s.g, wv s.h]
def stc (s : St) : Array Value := #[wv s.a, wv s.b, wv s.c, wv s.d, wv s.e, wv s.f, wv s.g, wv s.h]

theorem cell_new2 {w : World} {A B : Obj} {p : Addr} (h : p.block < w.heap.size) : ((w.alloc A).alloc B).cell? p = w.cell? p := by
  rw [World.cell?_alloc_lt _ _ _ (by simp; omega), World.cell?_alloc_lt _ _ _ h]

theorem quiet_add_left {P : Program} {f : FuncId} {args : Array Value} {w : World} {a n : Nat} {v : Value}
    (h : Calls P f args (w.drewN (a + n)) fun e w' => e = .returned v ∧ w.drewN (a + n) = w') :
    Calls P f args (w.drewN (a + n)) fun e w'' => e = .returned v ∧ ∃ m, w'' = w.drewN (a + m) :=
  h.mono fun _ _ ⟨he, hm⟩ => ⟨he, n, hm.symm⟩
theorem quiet_left {P : Program} {f : FuncId} {args : Array Value} {w : World} {n : Nat} {v : Value}
    (h : Calls P f args (w.drewN n) fun e w' => e = .returned v ∧ w.drewN n = w') : Calls P f args (w.drewN n) fun e w'' => e = .returned v ∧ ∃ m, w'' = w.drewN m :=
  h.mono fun _ _ ⟨he, hm⟩ => ⟨he, n, hm.symm⟩
end Go.Proofs.Ytcmlofgkcalhnaa.Sh
/- A Hasher's block: its 140 cells, told by what they stand for. -/
namespace Go.Proofs.Ytcmlofgkcalhnaa.Sh
open Go.RowKit

/-- The cells: state (8), rest (64), size, done, the lock's two, added (64). -/
def hcl (s : St) (rest : List UInt8) (n : Nat) (d m : Int) (ad : List Value) : List Value :=
  (stc s).toList ++ (rest.map bv ++ ([.int .i64 n, .int .u32 d, .int .i32 m, .int .u32 0] ++ ad))
def kv : List Value := kList.map wv

section
variable {w w' : World} {b : Nat} {s : St} {rest : List UInt8} {n : Nat} {d m : Int} {ad : List Value}
theorem stc_length (s : St) : (stc s).toList.length = 8 := rfl
theorem hcl_at (hr : rest.length = 64) (i : Nat) : (hcl s rest n d m ad)[i]? =
    if i < 8 then (stc s).toList[i]? else if i < 72 then (rest.map bv)[i - 8]? else if i < 76 then ([.int .i64 n, .int .u32 d, .int .i32 m, .int .u32 0] : List Value)[i - 72]? else ad[i - 76]? := by
  unfold hcl
  by_cases h1 : i < 8
  · rw [if_pos h1, List.getElem?_append_left (by rw [stc_length]; omega)]
  rw [if_neg h1, List.getElem?_append_right (by rw [stc_length]; omega), stc_length]
  by_cases h2 : i < 72
  · rw [if_pos h2, List.getElem?_append_left (by simp [hr]; omega)]
  rw [if_neg h2, List.getElem?_append_right (by simp [hr]; omega)]
  simp only [List.length_map, hr]
  by_cases h3 : i < 76
  · rw [if_pos h3, List.getElem?_append_left (by simp; omega), show i - 8 - 64 = i - 72 from by omega]
  rw [if_neg h3, List.getElem?_append_right (by simp; omega)]
  simp only [List.length_cons, List.length_nil]
  rw [show i - 8 - 64 - (0 + 1 + 1 + 1 + 1) = i - 76 from by omega]
theorem hcl_set (i : Nat) (v : Value) (s' : St) (n' : Nat) (d' m' : Int)
    (he : ∀ j, (hcl s' rest n' d' m' ad)[j]? = if i = j then some v else (hcl s rest n d m ad)[j]?) (hi : i < (hcl s rest n d m ad).length) :
    (hcl s rest n d m ad).toArray.setIfInBounds i v = (hcl s' rest n' d' m' ad).toArray := by
  apply Array.ext'
  rw [Array.toList_setIfInBounds]
  apply List.ext_getElem?
  intro j
  rw [he j, List.getElem?_set]
  by_cases e : i = j
  · subst e
    rw [if_pos rfl, if_pos rfl, if_pos hi]
  · rw [if_neg e, if_neg e]
theorem hcl_length (hr : rest.length = 64) (ha : ad.length = 64) : (hcl s rest n d m ad).length = 140 := by
  unfold hcl
  rw [List.length_append, stc_length]
  simp [hr, ha]
end
end Go.Proofs.Ytcmlofgkcalhnaa.Sh
/- sync.Once's parts, one goroutine: the lock, its release, the mark. -/
namespace Go.Proofs.Ytcmlofgkcalhnaa.Sh
open Go.RowKit

end Go.Proofs.Ytcmlofgkcalhnaa.Sh
/- The constants' makers. -/
namespace Go.Proofs.Ytcmlofgkcalhnaa.Sh
open Go.RowKit

def kNums : List Int := [1116352408, 1899447441, 3049323471, 3921009573, 961987163, 1508970993, 2453635748, 2870763221, 3624381080, 310598401, 607225278, 1426881987, 1925078388, 2162078206, 2614888103, 3248222580, 3835390401, 4022224774, 264347078, 604807628, 770255983, 1249150122, 1555081692, 1996064986, 2554220882, 2821834349, 2952996808, 3210313671, 3336571891, 3584528711, 113926993, 338241895, 666307205, 773529912, 1294757372, 1396182291, 1695183700, 1986661051, 2177026350, 2456956037, 2730485921, 2820302411, 3259730800, 3345764771, 3516065817, 3600352804, 4094571909, 275423344, 430227734, 506948616, 659060556, 883997877, 958139571, 1322822218, 1537002063, 1747873779, 1955562222, 2024104815, 2227730452, 2361852424, 2428436474, 2756734187, 3204031479, 3329325298]
theorem kv_nums : kList.map wi = kNums := by unfold kList wi; rfl
theorem kv_lit : kv = kNums.map (fun n => Value.int .u32 n) := by
  rw [← kv_nums]; unfold kv wv; rw [List.map_map]; rfl
theorem kv_length : kv.length = 64 := by unfold kv; rw [List.length_map]; exact kList_length
theorem first_lit : stc St.first = #[.int .u32 1779033703, .int .u32 3144134277, .int .u32 1013904242, .int .u32 2773480762, .int .u32 1359893119, .int .u32 2600822924, .int .u32 528734635, .int .u32 1541459225] := by unfold stc wv wi St.first; rfl

end Go.Proofs.Ytcmlofgkcalhnaa.Sh
/- The constants, made once. -/
namespace Go.Proofs.Ytcmlofgkcalhnaa.Sh
open Go.RowKit

theorem kv_one : ∀ v ∈ kv, v.oneCell' = true := by
  intro v hv
  unfold kv at hv
  simp only [List.mem_map] at hv
  obtain ⟨u, _, rfl⟩ := hv
  rfl
theorem there_below {B : Nat} {w w' : World} {b o n : Nat} (h : Below B w w') (hb : b < B) (ht : w.there b o n) : w'.there b o n := fun j hj => by
  rw [h.cell (p := ⟨b, o + j, none⟩) hb, h.frozen (p := ⟨b, o + j, none⟩) hb]
  exact ht j hj

/-- The Hasher's constants, made or not. -/
def Made (d : Int) (ad : List Value) : Prop := d = 0 ∨ (d = 1 ∧ ad = kv)

end Go.Proofs.Ytcmlofgkcalhnaa.Sh
