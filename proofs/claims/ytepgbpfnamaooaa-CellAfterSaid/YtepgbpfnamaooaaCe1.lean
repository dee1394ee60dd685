/- Package cell: cells that are swapped. sync/atomic's pointers, one goroutine. -/
import Derived.Test.YtepgbpfnamaooaaCe0
import Derived.LaidEql
import Derived.Lib.Builder
namespace Go.Proofs.Ytepgbpfnamaooaa.Ce
open Go.RowKit Go.Proofs.Ytepgbpfnamaooaa.Sh

section
variable {P : Program} {f : FuncId} {fn : Func}
theorem call_loadp (hf : P.funcs[f]? = some fn) (hname : (fn.name == "runtime.NumGoroutine") = false) (hb : fn.body.isNone = true) (hn : Extern.findNext fn = none)
    (he : Extern.find fn = some (Extern.Atomic.loadT .ptr)) {a : Addr} {x : Option Addr} {w : World} (hc : w.cell? a = some (.pointer x)) :
    (callFunc f #[.pointer (some a)]).run P w = .ok (.value (.pointer x)) w := by
  rw [run_callFunc_extern hf hname hb hn he]
  change (Sem.run P (do Extern.Atomic.read .ptr (← asAddr (.pointer (some a)))) w).andThen _ = _
  simp [Extern.Atomic.read, asAddr, hc, Result.andThen]
theorem call_storep (hf : P.funcs[f]? = some fn) (hname : (fn.name == "runtime.NumGoroutine") = false) (hb : fn.body.isNone = true) (hn : Extern.findNext fn = none)
    (he : Extern.find fn = some Extern.Atomic.storeT) {a : Addr} {y : Option Addr} {u : Value} {w : World} (hc : w.cell? a = some u) (hz : w.frozen? a = false) :
    (callFunc f #[.pointer (some a), .pointer y]).run P w = .ok (.value (.tuple #[])) (w.setCell a (.pointer y)) := by
  rw [run_callFunc_extern hf hname hb hn he]
  change (Sem.run P (do
    store (← asAddr (.pointer (some a))) (.pointer y) .atomic
    pure Extern.Atomic.none_) w).andThen _ = _
  simp [asAddr, hc, hz, run_store P w a (.pointer y) .atomic rfl, Result.andThen, Extern.Atomic.none_]
theorem call_swapp (hf : P.funcs[f]? = some fn) (hname : (fn.name == "runtime.NumGoroutine") = false) (hb : fn.body.isNone = true) (hn : Extern.findNext fn = none)
    (he : Extern.find fn = some (Extern.Atomic.swapT .ptr)) {a : Addr} {x y : Option Addr} {w : World} (hc : w.cell? a = some (.pointer x)) (hz : w.frozen? a = false) :
    (callFunc f #[.pointer (some a), .pointer y]).run P w = .ok (.value (.pointer x)) (w.setCell a (.pointer y)) := by
  rw [run_callFunc_extern hf hname hb hn he]
  change (Sem.run P (do
    let a' ← asAddr (.pointer (some a))
    let old ← Extern.Atomic.read .ptr a'
    store a' (.pointer y) .atomic
    pure old) w).andThen _ = _
  simp [Extern.Atomic.read, asAddr, hc, hz, run_store P w a (.pointer y) .atomic rfl, Result.andThen]
theorem call_casp (hf : P.funcs[f]? = some fn) (hname : (fn.name == "runtime.NumGoroutine") = false) (hb : fn.body.isNone = true) (hn : Extern.findNext fn = none)
    (he : Extern.find fn = some (Extern.Atomic.casT .ptr)) {a : Addr} {x : Addr} {y : Option Addr} {w : World} (hc : w.cell? a = some (.pointer (some x))) (hz : w.frozen? a = false) :
    (callFunc f #[.pointer (some a), .pointer (some x), .pointer y]).run P w = .ok (.value (.bool true)) (w.setCell a (.pointer y)) := by
  rw [run_callFunc_extern hf hname hb hn he]
  change (Sem.run P (do
    let a' ← asAddr (.pointer (some a))
    if ← Extern.Atomic.touchesFrozen a' then unsupported (.unsafePointer "a write to bytes that a string shares")
    let eq ← match Extern.Atomic.T.ptr, ← Extern.Atomic.read .ptr a', Value.pointer (some x) with
      | _, .int _ x, .int _ y => pure (x == y)
      | .ptr, .pointer x, .pointer y => samePointer x y
      | .int _, .pointer (some _), .int _ 0 | .int _, .int _ 0, .pointer (some _) => pure false
      | .int _, .pointer (some _), _ | .int _, _, .pointer (some _) => unsupported .addressObserved
      | _, _, _ => stuck "atomic.CompareAndSwap: old is no T"
    if eq then store a' (.pointer y) .atomic
    pure (Value.bool eq)) w).andThen _ = _
  simp [Extern.Atomic.touchesFrozen, Extern.Atomic.read, asAddr, viewAt, World.shape?_isSome_of_cell? hc, hc, hz, samePointer, run_sameAddr_same, run_store P w a (.pointer y) .atomic rfl, Result.andThen]
end
/-- Block b is a Cell that has s: it names block g, where the text stands. -/
def CE (w : World) (b : Nat) (s : ByteArray) : Prop := ∃ g, Blk w b 83 #[.pointer (some ⟨g, 0, none⟩)] ∧ Blk w g 9 #[.string s]
section
variable {w : World} {b : Nat} {s : ByteArray}
theorem CE.lt (h : CE w b s) : b < w.heap.size := by obtain ⟨g, h, _⟩ := h; exact h.lt
theorem CE.alloc (h : CE w b s) (o : Obj) : CE (w.alloc o) b s := by obtain ⟨g, h1, h2⟩ := h; exact ⟨g, h1.alloc o, h2.alloc o⟩
theorem CE.drew (h : CE w b s) : CE w.drew b s := h
theorem CE.drewN (h : CE w b s) (k : Nat) : CE (w.drewN k) b s := h
theorem CE.below {B : Nat} {w' : World} (h : CE w b s) (hb : Below B w w') (hg : w.heap.size ≤ B) : CE w' b s := by
  obtain ⟨g, h1, h2⟩ := h
  have := h1.lt
  have := h2.lt
  exact ⟨g, h1.below hb (by omega), h2.below hb (by omega)⟩
end

theorem conv_to (a : Addr) (v : Value) (w : World) (h : w.cell? a = some v) : (convert 77 79 (.pointer (some a))).run Try.prog w = .ok (.pointer (some a)) w :=
  run_convert_to_unsafe (P := Try.prog) (src := 77) (dst := 79) Try.underlying77 Try.underlying79 (by kernel_rfl) h
theorem conv_from (g : Nat) (s : ByteArray) (w : World) (h : Blk w g 9 #[.string s]) : (convert 79 77 (.pointer (some ⟨g, 0, none⟩))).run Try.prog w = .ok (.pointer (some ⟨g, 0, none⟩)) w := by
  obtain ⟨j, hj, _⟩ := Option.map_eq_some_iff.1 (show (Try.prog.info? 9).map (·.size) = some 1 by kernel_rfl)
  refine Lib.run_from_unsafe w ⟨g, 0, none⟩ Try.underlying79 Try.underlying77 hj (e := 9) (cells := 1) ?_ (by kernel_rfl)
  unfold Blk at h
  simp [World.shape?, h]

theorem loadp (a : Addr) (g : Nat) (s : ByteArray) (w : World) (h : w.cell? a = some (.pointer (some ⟨g, 0, none⟩))) (hg : Blk w g 9 #[.string s]) :
    Calls Try.prog 34 #[.pointer (some a)] w fun e w' => e = .returned (.pointer (some ⟨g, 0, none⟩)) ∧ w = w' := by
  have hl := call_loadp (P := Try.prog) Try.func47 (by kernel_rfl) (by kernel_rfl) (by kernel_rfl) (by kernel_rfl) h
  have hv := conv_from g s w hg
  go_enter Try.func34, Try.ntmps34
  go_wp2
  go_ret
  exact ⟨rfl, rfl⟩

theorem storep (a : Addr) (g : Nat) (u v : Value) (w : World) (h : w.cell? a = some u) (hz : w.frozen? a = false) (hg : w.cell? ⟨g, 0, none⟩ = some v) :
    Calls Try.prog 33 #[.pointer (some a), .pointer (some ⟨g, 0, none⟩)] w fun e w' => e = .returned (.tuple #[]) ∧ w' = w.setCell a (.pointer (some ⟨g, 0, none⟩)) := by
  have hl := call_storep (P := Try.prog) Try.func46 (by kernel_rfl) (by kernel_rfl) (by kernel_rfl) (by kernel_rfl) (y := some ⟨g, 0, none⟩) h hz
  have hv := conv_to ⟨g, 0, none⟩ v w hg
  go_enter Try.func33, Try.ntmps33
  go_wp2
  go_end0
  exact ⟨rfl, rfl⟩

theorem swapp (a : Addr) (g g' : Nat) (s : ByteArray) (v : Value) (w : World) (h : w.cell? a = some (.pointer (some ⟨g, 0, none⟩))) (hz : w.frozen? a = false) (hg : Blk w g 9 #[.string s]) (hg' : w.cell? ⟨g', 0, none⟩ = some v) (hne : g ≠ a.block) :
    Calls Try.prog 36 #[.pointer (some a), .pointer (some ⟨g', 0, none⟩)] w fun e w' => e = .returned (.pointer (some ⟨g, 0, none⟩)) ∧ w' = w.setCell a (.pointer (some ⟨g', 0, none⟩)) := by
  have hl := call_swapp (P := Try.prog) Try.func49 (by kernel_rfl) (by kernel_rfl) (by kernel_rfl) (by kernel_rfl) (y := some ⟨g', 0, none⟩) h hz
  have hv := conv_to ⟨g', 0, none⟩ v w hg'
  have hv2 := conv_from g s (w.setCell a (.pointer (some ⟨g', 0, none⟩))) (hg.far hne _)
  go_enter Try.func36, Try.ntmps36
  go_wp2
  go_ret
  exact ⟨rfl, rfl⟩

theorem casp (a : Addr) (g g' : Nat) (v v' : Value) (w : World) (h : w.cell? a = some (.pointer (some ⟨g, 0, none⟩))) (hz : w.frozen? a = false) (hg : w.cell? ⟨g, 0, none⟩ = some v) (hg' : w.cell? ⟨g', 0, none⟩ = some v') :
    Calls Try.prog 35 #[.pointer (some a), .pointer (some ⟨g, 0, none⟩), .pointer (some ⟨g', 0, none⟩)] w fun e w' => e = .returned (.bool true) ∧ w' = w.setCell a (.pointer (some ⟨g', 0, none⟩)) := by
  have hl := call_casp (P := Try.prog) Try.func48 (by kernel_rfl) (by kernel_rfl) (by kernel_rfl) (by kernel_rfl) (y := some ⟨g', 0, none⟩) h hz
  have hv := conv_to ⟨g, 0, none⟩ v w hg
  have hv' := conv_to ⟨g', 0, none⟩ v' w hg'
  go_enter Try.func35, Try.ntmps35
  go_wp2
  go_ret
  exact ⟨rfl, rfl⟩

theorem bytes_same (s : ByteArray) : (s.toList == s.toList) = true := beq_self_eq_true _
theorem bytes_other {s t : ByteArray} (h : s ≠ t) : (s.toList == t.toList) = false ∧ (s.toList != t.toList) = true := by
  have : s.toList ≠ t.toList := fun e => h (by
    rw [ByteArray.toList_eq, ByteArray.toList_eq] at e
    exact ByteArray.ext (Array.toList_inj.1 e))
  exact ⟨by simpa using this, by simpa using this⟩

/-- NewCell -/
theorem newe_any (s : ByteArray) (w : World) : Calls Try.prog 20 #[.string s] w fun e w' => ∃ b, e = .returned (.pointer (some ⟨b, 0, none⟩)) ∧ CE w' b s ∧ w.heap.size ≤ b ∧ Below w.heap.size w w' := by
  have hn : Hid (∀ w', w' = ((w.alloc (.cells #[.string s] 9)).alloc (.cells #[.pointer none] 83)).setCell ⟨w.heap.size + 1, 0, none⟩ (.pointer (some ⟨w.heap.size, 0, none⟩)) → CE w' (w.heap.size + 1) s ∧ Below w.heap.size w w') := by
    intro w' hw
    subst hw
    refine ⟨?_, (((Below.refl _ _).alloc (Nat.le_refl _) _).alloc (by simp) _).setCell (by simp) _⟩
    have h1 : Blk ((w.alloc (.cells #[.string s] 9)).alloc (.cells #[.pointer none] 83)) w.heap.size 9 #[.string s] := (Blk.new w _ _).alloc _
    have h2 : Blk ((w.alloc (.cells #[.string s] 9)).alloc (.cells #[.pointer none] 83)) (w.heap.size + 1) 83 #[.pointer none] := by
      have := Blk.new (w.alloc (.cells #[.string s] 9)) 83 #[.pointer none]
      simpa using this
    exact ⟨w.heap.size, h2.set_ 0 _, h1.far (by simp) _⟩
  go_enter Try.func20, Try.ntmps20
  go_wp2_with (go_at_call 33; refine (storep ⟨w.heap.size + 1, 0, none⟩ w.heap.size (.pointer none) (.string s) _ (by go_simp) (by go_simp) (by go_simp)).mono ?_; rintro e w' ⟨rfl, hw⟩; have HW := Lib.hid (hn.out _ hw); clear hw)
  go_ret
  exact ⟨w.heap.size + 1, rfl, HW.out.1, by omega, HW.out.2⟩

/-- Cell.Get -/
theorem eget_any (b : Nat) (s : ByteArray) (w : World) (h : CE w b s) : Calls Try.prog 23 #[.pointer (some ⟨b, 0, none⟩)] w fun e w' => e = .returned (.string s) ∧ w = w' := by
  obtain ⟨g, h1, h2⟩ := h
  have hc := h2.cell 0
  have HL := Lib.hid (loadp ⟨b, 0, none⟩ g s w (h1.cell 0) h2)
  go_enter Try.func23, Try.ntmps23
  go_wp2_with (go_at_call 34; refine HL.out.mono ?_; rintro e w' ⟨rfl, rfl⟩)
  go_ret
  exact ⟨rfl, rfl⟩

theorem CE.put {w : World} {b g : Nat} {c : Value} (h1 : Blk w b 83 #[c]) (s : ByteArray) (hg : Blk w g 9 #[.string s]) :
    CE (w.setCell ⟨b, 0, none⟩ (.pointer (some ⟨g, 0, none⟩))) b s :=
  ⟨g, h1.set_ 0 _, hg.far (Blk.ne_ hg h1 (by decide)) _⟩

/-- Cell.Set -/
theorem eset_any (b : Nat) (s n : ByteArray) (w : World) (h : CE w b s) : Calls Try.prog 22 #[.pointer (some ⟨b, 0, none⟩), .string n] w fun e w' => e = .returned (.string s) ∧ CE w' b n ∧ w.grownBy w' (some b) := by
  obtain ⟨g, h1, h2⟩ := h
  have hl2 := h2.lt
  have hl1 := h1.lt
  have h1' := h1.alloc (.cells #[.string n] 9)
  have h2' := h2.alloc (.cells #[.string n] 9)
  have hgb : g ≠ b := Blk.ne_ h2 h1 (by decide)
  have hc := (h2'.far (p := ⟨b, 0, none⟩) hgb (.pointer (some ⟨w.heap.size, 0, none⟩))).cell 0
  have hq : w.grownBy ((w.alloc (.cells #[.string n] 9)).setCell ⟨b, 0, none⟩ (.pointer (some ⟨w.heap.size, 0, none⟩))) (some b) := only_setCell (only_alloc (World.grownBy.refl w _) _) (.inl rfl) _
  have he : CE ((w.alloc (.cells #[.string n] 9)).setCell ⟨b, 0, none⟩ (.pointer (some ⟨w.heap.size, 0, none⟩))) b n := CE.put h1' n (heap_alloc_new _ _)
  have HF := Lib.hid (⟨hc, he, hq⟩ : _ ∧ _ ∧ _)
  have HS := Lib.hid (swapp ⟨b, 0, none⟩ g w.heap.size s (.string n) _ (h1'.cell 0) (h1'.frozen 0) h2' (by simp) hgb)
  clear he hq h1' h2' hc h1 h2
  go_enter Try.func22, Try.ntmps22
  go_wp2_with (go_at_call 36; refine HS.out.mono ?_; rintro e w' ⟨rfl, hw⟩; have HF2 := HF.out; rw [← hw] at HF2; obtain ⟨hc, he, hq⟩ := HF2; have HE := Lib.hid he; have HQ := Lib.hid hq; clear he hq hw HF HS)
  go_ret
  exact ⟨rfl, HE.out, HQ.out⟩

def SwapPost (w : World) (b : Nat) (s old n : ByteArray) (e : Ending) (w' : World) : Prop :=
  ((s = old ∧ e = .returned (.bool true) ∧ CE w' b n) ∨ (s ≠ old ∧ e = .returned (.bool false) ∧ CE w' b s)) ∧ w.grownBy w' (some b)
/-- Cell.Swap -/
theorem eswap_any (b : Nat) (s old n : ByteArray) (w : World) (h : CE w b s) : Calls Try.prog 21 #[.pointer (some ⟨b, 0, none⟩), .string old, .string n] w (SwapPost w b s old n) := by
  obtain ⟨g, h1, h2⟩ := h
  have hl2 := h2.lt
  have hl1 := h1.lt
  have h1' := h1.alloc (.cells #[.string n] 9)
  have h2' := h2.alloc (.cells #[.string n] 9)
  have hc := h2'.cell 0
  have hq : w.grownBy ((w.alloc (.cells #[.string n] 9)).setCell ⟨b, 0, none⟩ (.pointer (some ⟨w.heap.size, 0, none⟩))) (some b) := only_setCell (only_alloc (World.grownBy.refl w _) _) (.inl rfl) _
  have hq0 : w.grownBy (w.alloc (.cells #[.string n] 9)) (some b) := only_alloc (World.grownBy.refl w _) _
  have he : CE ((w.alloc (.cells #[.string n] 9)).setCell ⟨b, 0, none⟩ (.pointer (some ⟨w.heap.size, 0, none⟩))) b n := CE.put h1' n (heap_alloc_new _ _)
  have he0 : CE (w.alloc (.cells #[.string n] 9)) b s := ⟨g, h1', h2'⟩
  have HL := Lib.hid (loadp ⟨b, 0, none⟩ g s _ (h1'.cell 0) h2')
  have HS := Lib.hid (casp ⟨b, 0, none⟩ g w.heap.size (.string s) (.string n) _ (h1'.cell 0) (h1'.frozen 0) hc (by simp))
  have HF := Lib.hid (⟨he, hq⟩ : _ ∧ _)
  have HE0 := Lib.hid he0
  have HQ0 := Lib.hid hq0
  clear he hq h1' h2' he0 hq0
  by_cases hs : s = old
  · subst hs
    have e1 := bytes_same s
    go_enter Try.func21, Try.ntmps21
    go_wp2
    refine wp_loop_rounds 1 ?_
    rw [rounds_succ]
    go_wp2_with (first | (go_at_call 34; refine HL.out.mono ?_; rintro e w' ⟨rfl, rfl⟩) | (go_at_call 35; refine HS.out.mono ?_; rintro e w' ⟨rfl, hw⟩; have HF2 := HF.out; rw [← hw] at HF2; obtain ⟨he, hq⟩ := HF2; have HE := Lib.hid he; have HQ := Lib.hid hq; clear he hq hw HF HS))
    go_ret
    exact ⟨.inl ⟨rfl, rfl, HE.out⟩, HQ.out⟩
  · obtain ⟨hb1, hb2⟩ := bytes_other hs
    go_enter Try.func21, Try.ntmps21
    go_wp2
    refine wp_loop_rounds 1 ?_
    rw [rounds_succ]
    go_wp2_with (go_at_call 34; refine HL.out.mono ?_; rintro e w' ⟨rfl, rfl⟩)
    go_ret
    exact ⟨.inr ⟨hs, rfl, HE0.out⟩, HQ0.out⟩
end Go.Proofs.Ytepgbpfnamaooaa.Ce
