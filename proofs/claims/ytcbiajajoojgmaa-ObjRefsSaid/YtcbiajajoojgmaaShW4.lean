/- The constants' makers. -/
import Derived.Test.YtcbiajajoojgmaaShH0
import Derived.Test.YtcbiajajoojgmaaShW3
namespace Go.Proofs.Ytcbiajajoojgmaa.Sh
open Go.RowKit

def kNums : List Int := [1116352408, 1899447441, 3049323471, 3921009573, 961987163, 1508970993, 2453635748, 2870763221, 3624381080, 310598401, 607225278, 1426881987, 1925078388, 2162078206, 2614888103, 3248222580, 3835390401, 4022224774, 264347078, 604807628, 770255983, 1249150122, 1555081692, 1996064986, 2554220882, 2821834349, 2952996808, 3210313671, 3336571891, 3584528711, 113926993, 338241895, 666307205, 773529912, 1294757372, 1396182291, 1695183700, 1986661051, 2177026350, 2456956037, 2730485921, 2820302411, 3259730800, 3345764771, 3516065817, 3600352804, 4094571909, 275423344, 430227734, 506948616, 659060556, 883997877, 958139571, 1322822218, 1537002063, 1747873779, 1955562222, 2024104815, 2227730452, 2361852424, 2428436474, 2756734187, 3204031479, 3329325298]
theorem kv_nums : kList.map wi = kNums := by unfold kList wi; rfl
theorem kv_lit : kv = kNums.map (fun n => Value.int .u32 n) := by
  rw [← kv_nums]; unfold kv wv; rw [List.map_map]; rfl
theorem kv_length : kv.length = 64 := by unfold kv; rw [List.length_map]; exact kList_length
theorem first_lit : stc St.first = #[.int .u32 1779033703, .int .u32 3144134277, .int .u32 1013904242, .int .u32 2773480762, .int .u32 1359893119, .int .u32 2600822924, .int .u32 528734635, .int .u32 1541459225] := by unfold stc wv wi St.first; rfl

set_option maxRecDepth 100000 in
set_option maxHeartbeats 400000 in
theorem roots_any (w : World) : Calls Try.prog 85 #[] w fun e w' => e = .returned (.agg kv.toArray) ∧ Below w.heap.size w w' := by
  go_enter Try.func85, Try.ntmps85
  go_wp2_with (refine wpList_store_row rfl 108 (.tmp 0) (.tmp 1) rfl w.heap.size _ rfl rfl 108 _ (heap_alloc_new _ _) ?e3 ?e4 ?e5 ?_)
  case e3 => exact info64
  case e4 => rfl
  case e5 => simp [Value.oneCell']
  refine bodyPost_ret (results_cell_row (p := 0) (ty := 108) ?_ _ _ w.heap.size 108 _ (0, 0) _ ?_ (Blk.row (heap_alloc_new _ _) _) Try.underlying108 ?_ ?_) ?_ ?_
  · rfl
  · rfl
  · rfl
  · exact info64
  · rfl
  · refine ⟨?_, below_setRow ((Below.refl _ _).alloc (Nat.le_refl _) _) (Nat.le_refl _) _⟩
    rw [kv_lit]
    rfl

set_option maxRecDepth 100000 in
set_option maxHeartbeats 400000 in
theorem squares_any (w : World) : Calls Try.prog 78 #[] w fun e w' => e = .returned (stv St.first) ∧ Below w.heap.size w w' := by
  go_enter Try.func78, Try.ntmps78
  go_wp2_with (refine wpList_store_row rfl 94 (.tmp 0) (.tmp 1) rfl w.heap.size _ rfl rfl 94 _ (heap_alloc_new _ _) ?e3 ?e4 ?e5 ?_)
  case e3 => exact info50
  case e4 => rfl
  case e5 => simp [Value.oneCell']
  refine bodyPost_ret (results_cell_row (p := 0) (ty := 94) ?_ _ _ w.heap.size 94 _ (0, 0) _ ?_ (Blk.row (heap_alloc_new _ _) _) Try.underlying94 ?_ ?_) ?_ ?_
  · rfl
  · rfl
  · rfl
  · exact info50
  · rfl
  · refine ⟨?_, below_setRow ((Below.refl _ _).alloc (Nat.le_refl _) _) (Nat.le_refl _) _⟩
    show _ = Ending.returned (.agg (stc St.first))
    rw [first_lit]
end Go.Proofs.Ytcbiajajoojgmaa.Sh
