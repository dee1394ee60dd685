/- Texts put together: YShW3, YShW4, YShW5. -/
import Derived.Test.YtodlaikemoedfaaQp06
import Derived.Defers
import Derived.Laws.Pointers
import Derived.Laws.LoneSync
import Derived.RegionTactic
import Derived.RegionCalls
import Derived.ChangeAlike
/- sync.Once's parts, one goroutine: the lock, its release, the mark. -/
namespace Go.Proofs.Ytodlaikemoedfaa.Sh
open Go.RowKit

theorem disable (w : World) : (callFunc 77 #[]).run Try.prog w = .ok (.value (.tuple #[])) w := run_call_mark0 Try.func77 (by kernel_rfl) (by kernel_rfl) (by kernel_rfl) .disable (by kernel_rfl) w
theorem enable (w : World) : (callFunc 79 #[]).run Try.prog w = .ok (.value (.tuple #[])) w := run_call_mark0 Try.func79 (by kernel_rfl) (by kernel_rfl) (by kernel_rfl) .enable (by kernel_rfl) w
theorem acquire (a : Addr) (w : World) : (callFunc 80 #[.pointer (some a)]).run Try.prog w = .ok (.value (.tuple #[])) w := run_call_marked Try.func80 (by kernel_rfl) (by kernel_rfl) (by kernel_rfl) .acquire (by kernel_rfl) a w
theorem releaseMerge (a : Addr) (w : World) : (callFunc 82 #[.pointer (some a)]).run Try.prog w = .ok (.value (.tuple #[])) w := run_call_marked Try.func82 (by kernel_rfl) (by kernel_rfl) (by kernel_rfl) .releaseMerge (by kernel_rfl) a w

set_option maxRecDepth 100000 in
/-- '(*sync/atomic.Bool).Store(true)', ENTERED AS A DEFERRED CALL: the cell holds 1. -/
theorem store_deferred (a : Addr) (x : Value) (u : FrameMode) (w : World) (hc : w.cell? a = some x) (hz : w.frozen? a = false) :
    CallsD Try.prog 62 #[.pointer (some a), .bool true] u w fun e u' w' => u' = u ∧ (e = .returned (.tuple #[]) ∧ w' = w.drew.setCell a (.int .u32 1)) := by
  have hc' : w.drew.cell? a = some x := by go_simp
  have hz' : w.drew.frozen? a = false := by go_simp
  have hst := run_call_store (P := Try.prog) Try.func72 (by kernel_rfl) (by kernel_rfl) (by kernel_rfl) (by kernel_rfl) (k := .u32) (y := 1) hc' hz'
  go_enter_d Try.func62, Try.ntmps62
  go_wp2
  go_region_calls
  all_goals (go_end0; exact ⟨rfl, rfl⟩)

set_option maxRecDepth 100000 in
/-- '(*sync.Mutex).Unlock', ENTERED AS A DEFERRED CALL, the lock held and nobody waiting (state 1): state 0. -/
theorem unlock_deferred (a : Addr) (u : FrameMode) (w : World) (hc : w.cell? a = some (.int .i32 1)) (hz : w.frozen? a = false) :
    CallsD Try.prog 61 #[.pointer (some a)] u w fun e u' w' => u' = u ∧ (e = .returned (.tuple #[]) ∧ w' = w.setCell a (.int .i32 0)) := by
  have hd := disable
  have he := enable
  have hr := releaseMerge
  have hadd := run_call_add (P := Try.prog) Try.func83 (by kernel_rfl) (by kernel_rfl) (by kernel_rfl) .i32 (by kernel_rfl) (y := -1) (s := 0) hc hz (by simp [go_sem]; rfl)
  have hcv := run_convert_to_unsafe (P := Try.prog) (src := 121) (dst := 125) Try.underlying121 Try.underlying125 (by kernel_rfl) hc
  go_enter_d Try.func61, Try.ntmps61
  go_wp2
  go_end0
  go_wp2
  go_end0
  exact ⟨rfl, rfl⟩

set_option maxRecDepth 100000 in
/-- '(*sync.Mutex).Lock', the lock free (state 0): state 1. A CONTRACT, to be met at the call . -/
theorem lock_free (a : Addr) (w : World) (hc : w.cell? a = some (.int .i32 0)) (hz : w.frozen? a = false) :
    Calls Try.prog 60 #[.pointer (some a)] w fun e w' => e = .returned (.tuple #[]) ∧ w' = w.setCell a (.int .i32 1) := by
  have hd := disable
  have he := enable
  have ha := acquire
  have hcas := run_call_cas_hit (P := Try.prog) Try.func78 (by kernel_rfl) (by kernel_rfl) (by kernel_rfl) .i32 (by kernel_rfl) (y := 1) hc hz
  have hc' : (w.setCell a (.int .i32 1)).cell? a = some (.int .i32 1) := World.cell?_setCell_same w a _ hc
  have hcv := run_convert_to_unsafe (P := Try.prog) (src := 121) (dst := 125) Try.underlying121 Try.underlying125 (by kernel_rfl) hc'
  go_enter Try.func60, Try.ntmps60
  go_wp2
  first | go_end0 | (simp only [Exit.inBlock, Exit.then]; refine bodyPost_ret (results_none rfl _ _ _) rfl ?_) | refine bodyPost_ret (results_none rfl _ _ _) rfl ?_
  go_wp2
  go_end0
  exact ⟨rfl, rfl⟩
end Go.Proofs.Ytodlaikemoedfaa.Sh
/- The constants' makers. -/
namespace Go.Proofs.Ytodlaikemoedfaa.Sh
open Go.RowKit

def kNums : List Int := [1116352408, 1899447441, 3049323471, 3921009573, 961987163, 1508970993, 2453635748, 2870763221, 3624381080, 310598401, 607225278, 1426881987, 1925078388, 2162078206, 2614888103, 3248222580, 3835390401, 4022224774, 264347078, 604807628, 770255983, 1249150122, 1555081692, 1996064986, 2554220882, 2821834349, 2952996808, 3210313671, 3336571891, 3584528711, 113926993, 338241895, 666307205, 773529912, 1294757372, 1396182291, 1695183700, 1986661051, 2177026350, 2456956037, 2730485921, 2820302411, 3259730800, 3345764771, 3516065817, 3600352804, 4094571909, 275423344, 430227734, 506948616, 659060556, 883997877, 958139571, 1322822218, 1537002063, 1747873779, 1955562222, 2024104815, 2227730452, 2361852424, 2428436474, 2756734187, 3204031479, 3329325298]
theorem kv_nums : kList.map wi = kNums := by unfold kList wi; rfl
theorem kv_lit : kv = kNums.map (fun n => Value.int .u32 n) := by
  rw [← kv_nums]; unfold kv wv; rw [List.map_map]; rfl
theorem kv_length : kv.length = 64 := by unfold kv; rw [List.length_map]; exact kList_length
theorem first_lit : stc St.first = #[.int .u32 1779033703, .int .u32 3144134277, .int .u32 1013904242, .int .u32 2773480762, .int .u32 1359893119, .int .u32 2600822924, .int .u32 528734635, .int .u32 1541459225] := by unfold stc wv wi St.first; rfl

set_option maxRecDepth 100000 in
set_option maxHeartbeats 400000 in
theorem roots_any (w : World) : Calls Try.prog 35 #[] w fun e w' => e = .returned (.agg kv.toArray) ∧ Below w.heap.size w w' := by
  go_enter Try.func35, Try.ntmps35
  go_wp2_with (refine wpList_store_row rfl 72 (.tmp 0) (.tmp 1) rfl w.heap.size _ rfl rfl 72 _ (heap_alloc_new _ _) ?e3 ?e4 ?e5 ?_)
  case e3 => exact info64
  case e4 => rfl
  case e5 => simp [Value.oneCell']
  refine bodyPost_ret (results_cell_row (p := 0) (ty := 72) ?_ _ _ w.heap.size 72 _ (0, 0) _ ?_ (Blk.row (heap_alloc_new _ _) _) Try.underlying72 ?_ ?_) ?_ ?_
  · rfl
  · rfl
  · rfl
  · exact info64
  · rfl
  · refine ⟨?_, below_setRow ((Below.refl _ _).alloc (Nat.le_refl _) _) (Nat.le_refl _) _⟩
    rw [kv_lit]
    rfl

set_option maxRecDepth 100000 in
set_option maxHeartbeats 400000 in
theorem squares_any (w : World) : Calls Try.prog 25 #[] w fun e w' => e = .returned (stv St.first) ∧ Below w.heap.size w w' := by
  go_enter Try.func25, Try.ntmps25
  go_wp2_with (refine wpList_store_row rfl 58 (.tmp 0) (.tmp 1) rfl w.heap.size _ rfl rfl 58 _ (heap_alloc_new _ _) ?e3 ?e4 ?e5 ?_)
  case e3 => exact info50
  case e4 => rfl
  case e5 => simp [Value.oneCell']
  refine bodyPost_ret (results_cell_row (p := 0) (ty := 58) ?_ _ _ w.heap.size 58 _ (0, 0) _ ?_ (Blk.row (heap_alloc_new _ _) _) Try.underlying58 ?_ ?_) ?_ ?_
  · rfl
  · rfl
  · rfl
  · exact info50
  · rfl
  · refine ⟨?_, below_setRow ((Below.refl _ _).alloc (Nat.le_refl _) _) (Nat.le_refl _) _⟩
    show _ = Ending.returned (.agg (stc St.first))
    rw [first_lit]
end Go.Proofs.Ytodlaikemoedfaa.Sh
/- The constants, made once. -/
namespace Go.Proofs.Ytodlaikemoedfaa.Sh
open Go.RowKit

theorem kv_one : ∀ v ∈ kv, v.oneCell' = true := by
  intro v hv
  unfold kv at hv
  simp only [List.mem_map] at hv
  obtain ⟨u, _, rfl⟩ := hv
  rfl
theorem HB.there76 {w : World} {b : Nat} {s : St} {rest : List UInt8} {n : Nat} {d m : Int} {ad : List Value} (h : HB w b s rest n d m ad) : w.there b 76 64 := by
  intro j hj
  refine ⟨?_, h.frozen_ _⟩
  rw [h.cell_, if_neg (by omega), if_neg (by omega), if_neg (by omega), List.getElem?_eq_getElem (by have := h.2.2; omega)]
  rfl
theorem info64k : (Try.prog.info? 72).map (·.size) = some kv.length := by rw [kv_length]; exact info64

theorem there_below {B : Nat} {w w' : World} {b o n : Nat} (h : Below B w w') (hb : b < B) (ht : w.there b o n) : w'.there b o n := fun j hj => by
  rw [h.cell (p := ⟨b, o + j, none⟩) hb, h.frozen (p := ⟨b, o + j, none⟩) hb]
  exact ht j hj

set_option maxRecDepth 100000 in
set_option maxHeartbeats 400000 in
theorem closure_any (b : Nat) (pl : Addr) (s : St) (rest : List UInt8) (n : Nat) (d m : Int) (ad : List Value) (w : World) (h : HB w b s rest n d m ad) (hp : w.cell? pl = some (.pointer (some ⟨b, 0, none⟩))) (hpb : pl.block ≠ b) :
    Calls Try.prog 34 #[.pointer (some pl)] w fun e w' => e = .returned (.tuple #[]) ∧ HB w' b s rest n d m kv ∧ w.grownBy w' (some b) := by
  have ht := h.there76
  have hu := Try.underlying72
  have hi := info64k
  have hl := kv_length
  have h1 := kv_one
  have H := Lib.hid h
  have hbl : b < w.heap.size := h.lt
  have hpl : pl.block < w.heap.size := World.block_lt_of_cell? w pl hp
  clear h
  go_enter Try.func34, Try.ntmps34
  go_region_held3 (fun w' => w'.cell? pl = some (.pointer (some ⟨b, 0, none⟩)) ∧ w'.there b 76 64) (first
      | exact ⟨hp, ht⟩
      | exact ⟨(Below.cell hb1 hpl).trans hp, there_below hb1 hbl ht⟩
      | exact ⟨(World.cell?_setCells_out _ _ _ _ _ (fun e => absurd e hpb)).trans ((Below.cell hb1 hpl).trans hp), World.there_setCells (there_below hb1 hbl ht) _ _ _⟩)
    (first | (go_at_call 35; refine (roots_any _).mono ?_; rintro e w1 ⟨rfl, hb1⟩))
  go_end0
  exact ⟨rfl, (H.out.drew.below hb1 hbl).setAdded kv kv_length, only_setCells _ _ _ (only_then_below (only_drew (World.grownBy.refl w _)) hb1)⟩

set_option maxRecDepth 100000 in
set_option maxHeartbeats 1600000 in
theorem slow_any (b : Nat) (pl : Addr) (s : St) (rest : List UInt8) (n : Nat) (ad : List Value) (w : World) (h : HB w b s rest n 0 0 ad) (hp : w.cell? pl = some (.pointer (some ⟨b, 0, none⟩))) (hpb : pl.block ≠ b) :
    Calls Try.prog 47 #[.pointer (some ⟨b, 73, none⟩), .func (.func 34) #[] #[.pointer (some pl)]] w fun e w' => e = .returned (.tuple #[]) ∧ HB w' b s rest n 1 0 kv ∧ w.grownBy w' (some b) := by
  have g1 := h.setLock 1
  have hq1 : w.grownBy (w.setCell ⟨b, 74, none⟩ (.int .i32 1)) (some b) := only_setCell (World.grownBy.refl w _) (.inl rfl) _
  have hl := run_call_load (P := Try.prog) Try.func59 (by kernel_rfl) (by kernel_rfl) (by kernel_rfl) .u32 (by kernel_rfl) (w := w.setCell ⟨b, 74, none⟩ (.int .i32 1)) (a := ⟨b, 73, none⟩) (x := 0) g1.done_
  have hp1 : (w.setCell ⟨b, 74, none⟩ (.int .i32 1)).cell? pl = some (.pointer (some ⟨b, 0, none⟩)) := (World.cell?_setCell_other _ ⟨b, 74, none⟩ pl _ (fun e => hpb (by rw [← e]))).trans hp
  have hnot : ∀ (x : Bool) (w : World), (Op.unary .not (.bool x)).run Try.prog w = .ok (.bool (!x)) w := fun _ _ => rfl
  have hlk := h.lock_
  have hfz := h.frozen_ 74
  have G1 := Lib.hid g1
  have Q1 := Lib.hid hq1
  have HP1 := Lib.hid hp1
  clear g1 hq1 hp1 h hp
  go_enter_defers Try.func47, Try.ntmps47
  go_wp2_with (go_at_call 60; refine (lock_free ⟨b, 74, none⟩ _ (by go_simp) (by go_simp)).mono ?_; rintro e w' ⟨rfl, rfl⟩)
  go_wp2_with (first | (go_at_call 34; refine (closure_any b pl s rest n 0 1 ad _ G1.out HP1.out hpb).mono ?_; rintro e w2 ⟨rfl, hB2, hg2⟩) | (go_at_call 46; go_in))
  go_wp2
  refine leaves_cons (f := 62) (args := #[.pointer (some ⟨b, 73, none⟩), .bool true]) (by simp) (by simp [go_sem]) ?_
  refine (store_deferred ⟨b, 73, none⟩ (.int .u32 0) .returning _ hB2.done_ (hB2.frozen_ 73)).mono ?_
  rintro e u' w'' ⟨rfl, rfl, rfl⟩
  have hB3 := (hB2.drew).setDone 1
  refine leaves_cons (f := 61) (args := #[.pointer (some ⟨b, 74, none⟩)]) (by simp [settle]) (by simp [go_sem]) ?_
  refine (unlock_deferred ⟨b, 74, none⟩ _ _ hB3.lock_ (hB3.frozen_ 74)).mono ?_
  rintro e u' w'' ⟨rfl, rfl, rfl⟩
  have hB4 := hB3.setLock 0
  have hq := only_setCell (p := ⟨b, 74, none⟩) (only_setCell (p := ⟨b, 73, none⟩) (only_drew (only_then Q1.out hg2)) (.inl rfl) (.int .u32 1)) (.inl rfl) (.int .i32 0)
  simp [Leaves, settle, results, Try.results47]
  exact ⟨hB4, hq⟩

/-- '(*sync.Once).Do', not yet done. -/
theorem do_first (b : Nat) (pl : Addr) (s : St) (rest : List UInt8) (n : Nat) (ad : List Value) (w : World) (h : HB w b s rest n 0 0 ad) (hp : w.cell? pl = some (.pointer (some ⟨b, 0, none⟩))) (hpb : pl.block ≠ b) :
    Calls Try.prog 33 #[.pointer (some ⟨b, 73, none⟩), .func (.func 34) #[] #[.pointer (some pl)]] w fun e w' => e = .returned (.tuple #[]) ∧ HB w' b s rest n 1 0 kv ∧ w.grownBy w' (some b) := by
  have hl := run_call_load (P := Try.prog) Try.func59 (by kernel_rfl) (by kernel_rfl) (by kernel_rfl) .u32 (by kernel_rfl) h.done_
  have hnot : ∀ (x : Bool) (w : World), (Op.unary .not (.bool x)).run Try.prog w = .ok (.bool (!x)) w := fun _ _ => rfl
  have H := Lib.hid h
  have HP := Lib.hid hp
  clear h hp
  go_enter Try.func33, Try.ntmps33
  go_wp2_with (first | (go_at_call 47; refine (slow_any b pl s rest n ad _ H.out HP.out hpb).mono ?_; rintro e w' ⟨rfl, hh⟩) | (go_at_call 46; go_in))
  go_end0
  exact ⟨rfl, hh⟩

/-- '(*sync.Once).Do', done already. -/
theorem do_done (a : Addr) (fv : Value) (w : World) (h0 : w.cell? a = some (.int .u32 1)) :
    Calls Try.prog 33 #[.pointer (some a), fv] w fun e w' => e = .returned (.tuple #[]) ∧ w = w' := by
  have hl := run_call_load (P := Try.prog) Try.func59 (by kernel_rfl) (by kernel_rfl) (by kernel_rfl) .u32 (by kernel_rfl) h0
  have hnot : ∀ (x : Bool) (w : World), (Op.unary .not (.bool x)).run Try.prog w = .ok (.bool (!x)) w := fun _ _ => rfl
  go_enter Try.func33, Try.ntmps33
  go_wp2
  go_end0
  exact ⟨rfl, rfl⟩

/-- The Hasher's constants, made or not. -/
def Made (d : Int) (ad : List Value) : Prop := d = 0 ∨ (d = 1 ∧ ad = kv)

set_option maxRecDepth 100000 in
set_option maxHeartbeats 800000 in
theorem constants_any (b : Nat) (s : St) (rest : List UInt8) (n : Nat) (d : Int) (ad : List Value) (w : World) (h : HB w b s rest n d 0 ad) (hm : Made d ad) :
    Calls Try.prog 26 #[.pointer (some ⟨b, 0, none⟩)] w fun e w' => e = .returned (.pointer (some ⟨b, 76, none⟩)) ∧ HB w' b s rest n 1 0 kv ∧ w.grownBy w' (some b) := by
  have hmf : ∀ (fn : Fn) (first cap : Array Value) (w : World), (Instr.makeFunc fn first cap).run Try.prog w = .ok (.func fn first cap) w := fun _ _ _ _ => rfl
  have hbl := h.lt
  rcases hm with rfl | ⟨rfl, rfl⟩
  · have H := Lib.hid h
    clear h
    go_enter Try.func26, Try.ntmps26
    go_wp2_with (go_at_call 33; refine (do_first b ⟨w.heap.size, 0, none⟩ s rest n ad _ (H.out.alloc _) (by simp) (by simp; omega)).mono ?_; rintro e w2 ⟨rfl, hB, hg⟩; have hc : w2.cell? ⟨w.heap.size, 0, none⟩ = some (.pointer (some ⟨b, 0, none⟩)) := (only_cell hg (by simp) (by simp; omega)).trans (by simp); have HBB := Lib.hid hB; have HG := Lib.hid hg; clear hB hg)
    go_ret
    exact ⟨rfl, HBB.out, only_then (only_alloc (World.grownBy.refl w _) _) HG.out⟩
  · have H := Lib.hid h
    clear h
    go_enter Try.func26, Try.ntmps26
    go_wp2_with (go_at_call 33; refine (do_done ⟨b, 73, none⟩ _ _ ((H.out.alloc _).done_)).mono ?_; rintro e w2 ⟨rfl, rfl⟩)
    go_ret
    exact ⟨rfl, H.out.alloc _, only_alloc (World.grownBy.refl w _) _⟩
end Go.Proofs.Ytodlaikemoedfaa.Sh
