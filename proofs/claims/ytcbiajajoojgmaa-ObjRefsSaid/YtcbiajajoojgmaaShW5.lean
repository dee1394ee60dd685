/- The constants, made once. -/
import Derived.Test.YtcbiajajoojgmaaShW4
namespace Go.Proofs.Ytcbiajajoojgmaa.Sh
open Go.RowKit

theorem kv_one : ∀ v ∈ kv, v.oneCell' = true := by
  intro v hv
  unfold kv at hv
  simp only [List.mem_map] at hv
  obtain ⟨u, _, rfl⟩ := hv
  rfl
theorem HB.there76 {w : World} {b : Nat} {s : St} {rest : List UInt8} {n : Nat} {d m : Int} {ad : List Value} (h : HB w b s rest n d m ad) : w.there b 76 64 := by
  intro j hj
  refine ⟨?_, h.frozen_ _⟩
  rw [h.cell_, if_neg (by omega), if_neg (by omega), if_neg (by omega), List.getElem?_eq_getElem (by have := h.2.2; omega)]
  rfl
theorem info64k : (Try.prog.info? 108).map (·.size) = some kv.length := by rw [kv_length]; exact info64

theorem there_below {B : Nat} {w w' : World} {b o n : Nat} (h : Below B w w') (hb : b < B) (ht : w.there b o n) : w'.there b o n := fun j hj => by
  rw [h.cell (p := ⟨b, o + j, none⟩) hb, h.frozen (p := ⟨b, o + j, none⟩) hb]
  exact ht j hj

set_option maxRecDepth 100000 in
set_option maxHeartbeats 400000 in
theorem closure_any (b : Nat) (pl : Addr) (s : St) (rest : List UInt8) (n : Nat) (d m : Int) (ad : List Value) (w : World) (h : HB w b s rest n d m ad) (hp : w.cell? pl = some (.pointer (some ⟨b, 0, none⟩))) (hpb : pl.block ≠ b) :
    Calls Try.prog 84 #[.pointer (some pl)] w fun e w' => e = .returned (.tuple #[]) ∧ HB w' b s rest n d m kv ∧ w.grownBy w' (some b) := by
  have ht := h.there76
  have hu := Try.underlying108
  have hi := info64k
  have hl := kv_length
  have h1 := kv_one
  have H := Lib.hid h
  have hbl : b < w.heap.size := h.lt
  have hpl : pl.block < w.heap.size := World.block_lt_of_cell? w pl hp
  clear h
  go_enter Try.func84, Try.ntmps84
  go_region_held3 (fun w' => w'.cell? pl = some (.pointer (some ⟨b, 0, none⟩)) ∧ w'.there b 76 64) (first
      | exact ⟨hp, ht⟩
      | exact ⟨(Below.cell hb1 hpl).trans hp, there_below hb1 hbl ht⟩
      | exact ⟨(World.cell?_setCells_out _ _ _ _ _ (fun e => absurd e hpb)).trans ((Below.cell hb1 hpl).trans hp), World.there_setCells (there_below hb1 hbl ht) _ _ _⟩)
    (first | (go_at_call 85; refine (roots_any _).mono ?_; rintro e w1 ⟨rfl, hb1⟩))
  go_end0
  exact ⟨rfl, (H.out.drew.below hb1 hbl).setAdded kv kv_length, only_setCells _ _ _ (only_then_below (only_drew (World.grownBy.refl w _)) hb1)⟩

set_option maxRecDepth 100000 in
set_option maxHeartbeats 1600000 in
theorem slow_any (b : Nat) (pl : Addr) (s : St) (rest : List UInt8) (n : Nat) (ad : List Value) (w : World) (h : HB w b s rest n 0 0 ad) (hp : w.cell? pl = some (.pointer (some ⟨b, 0, none⟩))) (hpb : pl.block ≠ b) :
    Calls Try.prog 91 #[.pointer (some ⟨b, 73, none⟩), .func (.func 84) #[] #[.pointer (some pl)]] w fun e w' => e = .returned (.tuple #[]) ∧ HB w' b s rest n 1 0 kv ∧ w.grownBy w' (some b) := by
  have g1 := h.setLock 1
  have hq1 : w.grownBy (w.setCell ⟨b, 74, none⟩ (.int .i32 1)) (some b) := only_setCell (World.grownBy.refl w _) (.inl rfl) _
  have hl := run_call_load (P := Try.prog) Try.func94 (by kernel_rfl) (by kernel_rfl) (by kernel_rfl) .u32 (by kernel_rfl) (w := w.setCell ⟨b, 74, none⟩ (.int .i32 1)) (a := ⟨b, 73, none⟩) (x := 0) g1.done_
  have hp1 : (w.setCell ⟨b, 74, none⟩ (.int .i32 1)).cell? pl = some (.pointer (some ⟨b, 0, none⟩)) := (World.cell?_setCell_other _ ⟨b, 74, none⟩ pl _ (fun e => hpb (by rw [← e]))).trans hp
  have hnot : ∀ (x : Bool) (w : World), (Op.unary .not (.bool x)).run Try.prog w = .ok (.bool (!x)) w := fun _ _ => rfl
  have hlk := h.lock_
  have hfz := h.frozen_ 74
  have G1 := Lib.hid g1
  have Q1 := Lib.hid hq1
  have HP1 := Lib.hid hp1
  clear g1 hq1 hp1 h hp
  go_enter_defers Try.func91, Try.ntmps91
  go_wp2_with (go_at_call 95; refine (lock_free ⟨b, 74, none⟩ _ (by go_simp) (by go_simp)).mono ?_; rintro e w' ⟨rfl, rfl⟩)
  go_wp2_with (first | (go_at_call 84; refine (closure_any b pl s rest n 0 1 ad _ G1.out HP1.out hpb).mono ?_; rintro e w2 ⟨rfl, hB2, hg2⟩) | (go_at_call 90; go_in))
  go_wp2
  refine leaves_cons (f := 97) (args := #[.pointer (some ⟨b, 73, none⟩), .bool true]) (by simp) (by simp [go_sem]) ?_
  refine (store_deferred ⟨b, 73, none⟩ (.int .u32 0) .returning _ hB2.done_ (hB2.frozen_ 73)).mono ?_
  rintro e u' w'' ⟨rfl, rfl, rfl⟩
  have hB3 := (hB2.drew).setDone 1
  refine leaves_cons (f := 96) (args := #[.pointer (some ⟨b, 74, none⟩)]) (by simp [settle]) (by simp [go_sem]) ?_
  refine (unlock_deferred ⟨b, 74, none⟩ _ _ hB3.lock_ (hB3.frozen_ 74)).mono ?_
  rintro e u' w'' ⟨rfl, rfl, rfl⟩
  have hB4 := hB3.setLock 0
  have hq := only_setCell (p := ⟨b, 74, none⟩) (only_setCell (p := ⟨b, 73, none⟩) (only_drew (only_then Q1.out hg2)) (.inl rfl) (.int .u32 1)) (.inl rfl) (.int .i32 0)
  simp [Leaves, settle, results, Try.results91]
  exact ⟨hB4, hq⟩

/-- '(*sync.Once).Do', not yet done. -/
theorem do_first (b : Nat) (pl : Addr) (s : St) (rest : List UInt8) (n : Nat) (ad : List Value) (w : World) (h : HB w b s rest n 0 0 ad) (hp : w.cell? pl = some (.pointer (some ⟨b, 0, none⟩))) (hpb : pl.block ≠ b) :
    Calls Try.prog 83 #[.pointer (some ⟨b, 73, none⟩), .func (.func 84) #[] #[.pointer (some pl)]] w fun e w' => e = .returned (.tuple #[]) ∧ HB w' b s rest n 1 0 kv ∧ w.grownBy w' (some b) := by
  have hl := run_call_load (P := Try.prog) Try.func94 (by kernel_rfl) (by kernel_rfl) (by kernel_rfl) .u32 (by kernel_rfl) h.done_
  have hnot : ∀ (x : Bool) (w : World), (Op.unary .not (.bool x)).run Try.prog w = .ok (.bool (!x)) w := fun _ _ => rfl
  have H := Lib.hid h
  have HP := Lib.hid hp
  clear h hp
  go_enter Try.func83, Try.ntmps83
  go_wp2_with (first | (go_at_call 91; refine (slow_any b pl s rest n ad _ H.out HP.out hpb).mono ?_; rintro e w' ⟨rfl, hh⟩) | (go_at_call 90; go_in))
  go_end0
  exact ⟨rfl, hh⟩

/-- '(*sync.Once).Do', done already. -/
theorem do_done (a : Addr) (fv : Value) (w : World) (h0 : w.cell? a = some (.int .u32 1)) :
    Calls Try.prog 83 #[.pointer (some a), fv] w fun e w' => e = .returned (.tuple #[]) ∧ w = w' := by
  have hl := run_call_load (P := Try.prog) Try.func94 (by kernel_rfl) (by kernel_rfl) (by kernel_rfl) .u32 (by kernel_rfl) h0
  have hnot : ∀ (x : Bool) (w : World), (Op.unary .not (.bool x)).run Try.prog w = .ok (.bool (!x)) w := fun _ _ => rfl
  go_enter Try.func83, Try.ntmps83
  go_wp2
  go_end0
  exact ⟨rfl, rfl⟩

/-- The Hasher's constants, made or not. -/
def Made (d : Int) (ad : List Value) : Prop := d = 0 ∨ (d = 1 ∧ ad = kv)

set_option maxRecDepth 100000 in
set_option maxHeartbeats 800000 in
theorem constants_any (b : Nat) (s : St) (rest : List UInt8) (n : Nat) (d : Int) (ad : List Value) (w : World) (h : HB w b s rest n d 0 ad) (hm : Made d ad) :
    Calls Try.prog 79 #[.pointer (some ⟨b, 0, none⟩)] w fun e w' => e = .returned (.pointer (some ⟨b, 76, none⟩)) ∧ HB w' b s rest n 1 0 kv ∧ w.grownBy w' (some b) := by
  have hmf : ∀ (fn : Fn) (first cap : Array Value) (w : World), (Instr.makeFunc fn first cap).run Try.prog w = .ok (.func fn first cap) w := fun _ _ _ _ => rfl
  have hbl := h.lt
  rcases hm with rfl | ⟨rfl, rfl⟩
  · have H := Lib.hid h
    clear h
    go_enter Try.func79, Try.ntmps79
    go_wp2_with (go_at_call 83; refine (do_first b ⟨w.heap.size, 0, none⟩ s rest n ad _ (H.out.alloc _) (by simp) (by simp; omega)).mono ?_; rintro e w2 ⟨rfl, hB, hg⟩; have hc : w2.cell? ⟨w.heap.size, 0, none⟩ = some (.pointer (some ⟨b, 0, none⟩)) := (only_cell hg (by simp) (by simp; omega)).trans (by simp); have HBB := Lib.hid hB; have HG := Lib.hid hg; clear hB hg)
    go_ret
    exact ⟨rfl, HBB.out, only_then (only_alloc (World.grownBy.refl w _) _) HG.out⟩
  · have H := Lib.hid h
    clear h
    go_enter Try.func79, Try.ntmps79
    go_wp2_with (go_at_call 83; refine (do_done ⟨b, 73, none⟩ _ _ ((H.out.alloc _).done_)).mono ?_; rintro e w2 ⟨rfl, rfl⟩)
    go_ret
    exact ⟨rfl, H.out.alloc _, only_alloc (World.grownBy.refl w _) _⟩
end Go.Proofs.Ytcbiajajoojgmaa.Sh
