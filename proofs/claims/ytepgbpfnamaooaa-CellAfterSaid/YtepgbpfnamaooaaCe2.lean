/- Package cell: lazy hashes. -/
import Derived.Test.YtepgbpfnamaooaaShL0
import Derived.Test.YtepgbpfnamaooaaShW5
import Derived.Test.YtepgbpfnamaooaaCe0
import Derived.WalkSpells
namespace Go.Proofs.Ytepgbpfnamaooaa.Ce
open Go.RowKit Go.Proofs.Ytepgbpfnamaooaa.Sh

theorem own_nil (w : World) (B : Nat) : Own w B (.slice none 0 0) [] := World.ownsRow_nil w B 5 1
set_option maxRecDepth 100000 in
set_option maxHeartbeats 400000 in
/-- bytes.Clone -/
theorem clone_any (v : Value) (bs : List UInt8) (w : World) (h : Sl w v bs) (hn : bs.length ≤ 140737488355328) : Calls Try.prog 24 #[v] w (OwnPost w bs) := by
  obtain ⟨A, c, rfl, hlc, hcm, hI, hA⟩ := h
  rcases A with _ | ad
  · obtain rfl := hA rfl
    have hnil := fun (w : World) => Lib.run_eql_slice_nil (P := Try.prog) w 22 5 none 0 c 0 0 Try.underlying22
    simp only [Option.isNone] at hnil
    clear hI hA hlc
    show Calls _ _ #[.slice none 0 c] _ _
    go_enter Try.func24, Try.ntmps24
    go_wp2_with fail
    go_ret
    exact ⟨_, rfl, own_nil _ _, Below.refl _ _⟩
  · have hI1 : In (w.alloc (.cells #[] 5)) (some ad) bs := hI.below ((Below.refl _ _).alloc (Nat.le_refl _) _)
    have hr := hI1.reads
    have hown : Own (w.alloc (.cells #[] 5)) w.heap.size (.slice (some ⟨w.heap.size, 0, none⟩) 0 0) [] :=
      World.ownsRow_made w #[] 0 (Nat.le_refl _) (by unfold maxLen; omega) rfl
    obtain ⟨l, hl⟩ : ∃ l, bs.length = l := ⟨_, rfl⟩
    rw [hl] at hr hn ⊢
    have hnil := fun (w : World) => Lib.run_eql_slice_nil (P := Try.prog) w 22 5 (some ad) l c 0 0 Try.underlying22
    simp only [Option.isNone] at hnil
    have hsm : ([] : List UInt8).length + l ≤ 140737488355328 := by simpa using hn
    have hz : w.heap.size ≤ (w.alloc (.cells #[] 5)).heap.size := by simp
    have HR := Lib.hid hr
    have HOWN := Lib.hid hown
    have HZ := Lib.hid hz
    clear hl hr hown hz hI hI1 hA hlc hcm
    go_enter Try.func24, Try.ntmps24
    go_wp2_with (at_builtin; refine append_bytes rfl (.tmp 5) (.tmp 6) rfl _ w.heap.size (.slice (some ⟨w.heap.size, 0, none⟩) 0 0) [] rfl HOWN.out _ (some ad) l c bs rfl HR.out hsm HZ.out ?_; intro v3 w3 ho3 hb3; have HO := Lib.hid ho3; have HB := Lib.hid hb3; clear ho3 hb3)
    go_ret
    refine ⟨v3, rfl, ?_, ((Below.refl _ _).alloc (Nat.le_refl _) _).trans HB.out⟩
    simpa using HO.out

/-- Block b is a Lazy of the bytes that kept reads: done, the lock, its hash, how often. -/
def LB (w : World) (b : Nat) (kept : Value) (d m : Int) (id : ByteArray) (tm : Int) : Prop :=
  Blk w b 70 #[kept, .int .u32 d, .int .i32 m, .int .u32 0, .string id, .int .i64 tm]
section
variable {w : World} {b : Nat} {kept : Value} {d m tm : Int} {id : ByteArray}
theorem LB.kept_ (h : LB w b kept d m id tm) : w.cell? ⟨b, 0, none⟩ = some kept := h.cell 0
theorem LB.done_ (h : LB w b kept d m id tm) : w.cell? ⟨b, 1, none⟩ = some (.int .u32 d) := h.cell 1
theorem LB.lock_ (h : LB w b kept d m id tm) : w.cell? ⟨b, 2, none⟩ = some (.int .i32 m) := h.cell 2
theorem LB.id_ (h : LB w b kept d m id tm) : w.cell? ⟨b, 4, none⟩ = some (.string id) := h.cell 4
theorem LB.tm_ (h : LB w b kept d m id tm) : w.cell? ⟨b, 5, none⟩ = some (.int .i64 tm) := h.cell 5
theorem LB.setDone (h : LB w b kept d m id tm) (d' : Int) : LB (w.setCell ⟨b, 1, none⟩ (.int .u32 d')) b kept d' m id tm := h.set_ 1 _
theorem LB.setLock (h : LB w b kept d m id tm) (m' : Int) : LB (w.setCell ⟨b, 2, none⟩ (.int .i32 m')) b kept d m' id tm := h.set_ 2 _
theorem LB.setId (h : LB w b kept d m id tm) (id' : ByteArray) : LB (w.setCell ⟨b, 4, none⟩ (.string id')) b kept d m id' tm := h.set_ 4 _
theorem LB.setTm (h : LB w b kept d m id tm) (t' : Int) : LB (w.setCell ⟨b, 5, none⟩ (.int .i64 t')) b kept d m id t' := h.set_ 5 _
end
/-- A hash, as text. -/
def idOf (bs : List UInt8) : ByteArray := str (hexL (sumOf bs))

set_option maxRecDepth 100000 in
set_option maxHeartbeats 400000 in
theorem lclosure_any (b : Nat) (pl : Addr) (kept : Value) (bs : List UInt8) (d m : Int) (id : ByteArray) (w : World) (h : LB w b kept d m id 0) (hs : Sl w kept bs) (hn : bs.length ≤ 140737488351232) (hp : w.cell? pl = some (.pointer (some ⟨b, 0, none⟩))) (hpb : pl.block ≠ b) :
    Calls Try.prog 29 #[.pointer (some pl)] w fun e w' => e = .returned (.tuple #[]) ∧ LB w' b kept d m (idOf bs) 1 ∧ w.grownBy w' (some b) := by
  have hk := h.kept_
  have hi := h.id_
  have hz := h.frozen 4
  have hbl : b < w.heap.size := h.lt
  have hpl : pl.block < w.heap.size := World.block_lt_of_cell? w pl hp
  have H := Lib.hid h
  have HS := Lib.hid hs
  clear h hs
  go_enter Try.func29, Try.ntmps29
  go_wp2_with fail
  go_region_held3 (fun w' => w'.cell? pl = some (.pointer (some ⟨b, 0, none⟩)) ∧ w'.cell? ⟨b, 0, none⟩ = some kept) (first
      | exact ⟨hp, hk⟩
      | exact ⟨(Below.cell hb1 hpl).trans hp, (Below.cell hb1 (p := ⟨b, 0, none⟩) hbl).trans hk⟩
      | exact ⟨(World.cell?_setCell_other _ _ _ _ (fun e => hpb (by rw [← e]))).trans ((Below.cell hb1 hpl).trans hp), (World.cell?_setCell_other _ _ _ _ (fun e => by injection e; omega)).trans ((Below.cell hb1 (p := ⟨b, 0, none⟩) hbl).trans hk)⟩)
    (first | (go_at_call 30; refine (id_any kept bs _ (by exact HS.out) (by omega)).mono ?_; rintro e w1 ⟨rfl, hb1⟩; have hi1 : w1.cell? ⟨b, 4, none⟩ = some (.string id) := (Below.cell hb1 (p := ⟨b, 4, none⟩) hbl).trans hi; have hz1 : w1.frozen? ⟨b, 4, none⟩ = false := (Below.frozen hb1 (p := ⟨b, 4, none⟩) hbl).trans hz))
  have hb1 : Below w.heap.size w w1 := ⟨hb1.os, hb1.tape, hb1.output, hb1.size, hb1.block⟩
  have hB : LB (w1.setCell ⟨b, 4, none⟩ (.string (str (hexL (sumOf bs))))) b kept d m (idOf bs) 0 := LB.setId (Blk.below H.out hb1 hbl) _
  have hG : w.grownBy (w1.setCell ⟨b, 4, none⟩ (.string (str (hexL (sumOf bs))))) (some b) := only_setCell (p := ⟨b, 4, none⟩) (only_of_below hb1 _) (.inl rfl) _
  have hp2 : (w1.setCell ⟨b, 4, none⟩ (.string (str (hexL (sumOf bs))))).cell? pl = some (.pointer (some ⟨b, 0, none⟩)) := (World.cell?_setCell_other _ _ _ _ (fun e => hpb (by rw [← e]))).trans ((Below.cell hb1 hpl).trans hp)
  generalize w1.setCell ⟨b, 4, none⟩ (.string (str (hexL (sumOf bs)))) = w2 at *
  have HA := Lib.hid (add64 ⟨b, 5, none⟩ 0 1 w2 hB.tm_ (hB.frozen 5))
  have HB := Lib.hid hB
  have HG := Lib.hid hG
  clear hB hG hb1 hp hk hi hz H HS
  go_wp2_with (go_at_call 31; refine HA.out.mono ?_; rintro e w3 ⟨rfl, hw⟩)
  go_end0
  rw [show IntKind.i64.wrap (0 + 1) = 1 from rfl] at hw
  subst hw
  exact ⟨rfl, HB.out.setTm 1, only_setCell (p := ⟨b, 5, none⟩) HG.out (.inl rfl) _⟩

set_option maxRecDepth 100000 in
set_option maxHeartbeats 1600000 in
theorem lslow_any (b : Nat) (pl : Addr) (kept : Value) (bs : List UInt8) (id : ByteArray) (w : World) (h : LB w b kept 0 0 id 0) (hs : ∀ w', w.grownBy w' (some b) → Sl w' kept bs) (hn : bs.length ≤ 140737488351232) (hp : w.cell? pl = some (.pointer (some ⟨b, 0, none⟩))) (hpb : pl.block ≠ b) :
    Calls Try.prog 41 #[.pointer (some ⟨b, 1, none⟩), .func (.func 29) #[] #[.pointer (some pl)]] w fun e w' => e = .returned (.tuple #[]) ∧ LB w' b kept 1 0 (idOf bs) 1 ∧ w.grownBy w' (some b) := by
  have g1 := h.setLock 1
  have hq1 : w.grownBy (w.setCell ⟨b, 2, none⟩ (.int .i32 1)) (some b) := only_setCell (World.grownBy.refl w _) (.inl rfl) _
  have hl := run_call_load (P := Try.prog) Try.func50 (by kernel_rfl) (by kernel_rfl) (by kernel_rfl) .u32 (by kernel_rfl) (w := w.setCell ⟨b, 2, none⟩ (.int .i32 1)) (a := ⟨b, 1, none⟩) (x := 0) g1.done_
  have hp1 : (w.setCell ⟨b, 2, none⟩ (.int .i32 1)).cell? pl = some (.pointer (some ⟨b, 0, none⟩)) := (World.cell?_setCell_other _ ⟨b, 2, none⟩ pl _ (fun e => hpb (by rw [← e]))).trans hp
  have hnot : ∀ (x : Bool) (w : World), (Op.unary .not (.bool x)).run Try.prog w = .ok (.bool (!x)) w := fun _ _ => rfl
  have hlk := h.lock_
  have hfz := h.frozen 2
  have HS1 := Lib.hid (hs _ hq1)
  have G1 := Lib.hid g1
  have Q1 := Lib.hid hq1
  have HP1 := Lib.hid hp1
  clear g1 hq1 hp1 h hp hs
  go_enter_defers Try.func41, Try.ntmps41
  go_wp2_with (go_at_call 51; refine (lock_free ⟨b, 2, none⟩ _ (by go_simp) (by go_simp)).mono ?_; rintro e w' ⟨rfl, rfl⟩)
  go_wp2_with (first | (go_at_call 29; refine (lclosure_any b pl kept bs 0 1 id _ G1.out HS1.out hn HP1.out hpb).mono ?_; rintro e w2 ⟨rfl, hB2, hg2⟩) | (go_at_call 40; go_in))
  go_wp2
  refine leaves_cons (f := 53) (args := #[.pointer (some ⟨b, 1, none⟩), .bool true]) (by simp) (by simp [go_sem]) ?_
  refine (store_deferred ⟨b, 1, none⟩ (.int .u32 0) .returning _ hB2.done_ (hB2.frozen 1)).mono ?_
  rintro e u' w'' ⟨rfl, rfl, rfl⟩
  have hB3 := LB.setDone (w := w2.drew) hB2 1
  refine leaves_cons (f := 52) (args := #[.pointer (some ⟨b, 2, none⟩)]) (by simp [settle]) (by simp [go_sem]) ?_
  refine (unlock_deferred ⟨b, 2, none⟩ _ _ hB3.lock_ (hB3.frozen 2)).mono ?_
  rintro e u' w'' ⟨rfl, rfl, rfl⟩
  have hB4 := hB3.setLock 0
  have hq := only_setCell (p := ⟨b, 2, none⟩) (only_setCell (p := ⟨b, 1, none⟩) (only_drew (only_then Q1.out hg2)) (.inl rfl) (.int .u32 1)) (.inl rfl) (.int .i32 0)
  simp [Leaves, settle, results, Try.results41]
  exact ⟨hB4, hq⟩

theorem ldo_first (b : Nat) (pl : Addr) (kept : Value) (bs : List UInt8) (id : ByteArray) (w : World) (h : LB w b kept 0 0 id 0) (hs : ∀ w', w.grownBy w' (some b) → Sl w' kept bs) (hn : bs.length ≤ 140737488351232) (hp : w.cell? pl = some (.pointer (some ⟨b, 0, none⟩))) (hpb : pl.block ≠ b) :
    Calls Try.prog 28 #[.pointer (some ⟨b, 1, none⟩), .func (.func 29) #[] #[.pointer (some pl)]] w fun e w' => e = .returned (.tuple #[]) ∧ LB w' b kept 1 0 (idOf bs) 1 ∧ w.grownBy w' (some b) := by
  have hl := run_call_load (P := Try.prog) Try.func50 (by kernel_rfl) (by kernel_rfl) (by kernel_rfl) .u32 (by kernel_rfl) h.done_
  have hnot : ∀ (x : Bool) (w : World), (Op.unary .not (.bool x)).run Try.prog w = .ok (.bool (!x)) w := fun _ _ => rfl
  have H := Lib.hid h
  have HP := Lib.hid hp
  have HS := Lib.hid hs
  clear h hp hs
  go_enter Try.func28, Try.ntmps28
  go_wp2_with (first | (go_at_call 41; refine (lslow_any b pl kept bs id _ H.out HS.out hn HP.out hpb).mono ?_; rintro e w' ⟨rfl, hh⟩) | (go_at_call 40; go_in))
  go_end0
  exact ⟨rfl, hh⟩

/-- Own memory stays, whatever becomes of a Lazy's block. -/
theorem own_lazy {w w' : World} {B b : Nat} {v : Value} {bs : List UInt8} {cs : Array Value} (h : Own w B v bs) (hb : Blk w b 70 cs) (hg : w.grownBy w' (some b)) : Own w' B v bs :=
  World.ownsRow.kept h hg (.inr (own_blk_ne h hb (by decide)))

/-- Block b is a Lazy of bs, made where B blocks lay; asked: was it asked for its hash? -/
def LZ (w : World) (B b : Nat) (bs : List UInt8) (asked : Bool) : Prop :=
  B ≤ b ∧ ∃ kept, Own w B kept bs ∧ if asked = true then LB w b kept 1 0 (idOf bs) 1 else LB w b kept 0 0 ByteArray.empty 0
section
variable {w w' : World} {B b : Nat} {bs : List UInt8} {q : Bool}
theorem LZ.lt (h : LZ w B b bs q) : b < w.heap.size := by
  obtain ⟨_, k, _, h2⟩ := h
  cases q <;> exact Blk.lt h2
theorem LZ.alloc (h : LZ w B b bs q) (o : Obj) : LZ (w.alloc o) B b bs q := by
  obtain ⟨h0, k, h1, h2⟩ := h
  refine ⟨h0, k, World.ownsRow.alloc h1 o, ?_⟩
  cases q <;> exact Blk.alloc h2 o
theorem LZ.drew (h : LZ w B b bs q) : LZ w.drew B b bs q := by cases q <;> exact h
theorem LZ.below (h : LZ w B b bs q) (hb : Below w.heap.size w w') : LZ w' B b bs q := by
  have hl := h.lt
  obtain ⟨h0, k, h1, h2⟩ := h
  refine ⟨h0, k, Own.below h1 hb, ?_⟩
  cases q <;> exact Blk.below h2 hb hl
theorem LZ.far (h : LZ w B b bs q) {p : Addr} (hp : p.block < B) (u : Value) : LZ (w.setCell p u) B b bs q := by
  obtain ⟨h0, k, h1, h2⟩ := h
  refine ⟨h0, k, Own.farSet h1 hp u, ?_⟩
  cases q <;> exact Blk.far h2 (by omega) u
end

set_option maxRecDepth 100000 in
set_option maxHeartbeats 400000 in
theorem newl_any (v : Value) (bs : List UInt8) (w : World) (h : Sl w v bs) (hn : bs.length ≤ 140737488351232) : Calls Try.prog 10 #[v] w fun e w' => ∃ b, e = .returned (.pointer (some ⟨b, 0, none⟩)) ∧ LZ w' w.heap.size b bs false ∧ Below w.heap.size w w' := by
  have HS := Lib.hid h
  clear h
  go_enter Try.func10, Try.ntmps10
  go_wp2_with fail
  refine (clone_any v bs _ HS.out (by omega)).mono ?_
  rintro e w1 ⟨k, rfl, ho, hb⟩
  obtain ⟨A, c, rfl, h1, h2, _, _⟩ := ho.in_
  have HO := Lib.hid ho
  have HB := Lib.hid hb
  clear ho hb h1 h2
  go_wp2_with fail
  go_ret
  exact ⟨w1.heap.size, rfl, ⟨HB.out.size, _, World.ownsRow.alloc HO.out _, heap_alloc_new _ _⟩, HB.out.alloc HB.out.size _⟩

set_option maxRecDepth 100000 in
set_option maxHeartbeats 400000 in
theorem lid_any (B b : Nat) (bs : List UInt8) (q : Bool) (w : World) (h : LZ w B b bs q) (hn : bs.length ≤ 140737488351232) : Calls Try.prog 13 #[.pointer (some ⟨b, 0, none⟩)] w fun e w' => e = .returned (.string (idOf bs)) ∧ LZ w' B b bs true ∧ w.grownBy w' (some b) := by
  have hmf : ∀ (fn : Fn) (first cap : Array Value) (w : World), (Instr.makeFunc fn first cap).run Try.prog w = .ok (.func fn first cap) w := fun _ _ _ _ => rfl
  have hbl := h.lt
  obtain ⟨h0, k, h1, h2⟩ := h
  cases q with
  | false =>
    have h2' : LB w b k 0 0 ByteArray.empty 0 := h2
    have hs : ∀ w', (w.alloc (.cells #[.pointer (some ⟨b, 0, none⟩)] 25)).grownBy w' (some b) → Own w' B k bs := fun w' hg => own_lazy (World.ownsRow.alloc h1 _) (Blk.alloc h2' _) hg
    have H := Lib.hid h2'
    have HS := Lib.hid hs
    clear h1 h2 h2' hs
    go_enter Try.func13, Try.ntmps13
    go_wp2_with (go_at_call 28; refine (ldo_first b ⟨w.heap.size, 0, none⟩ k bs ByteArray.empty _ (Blk.alloc H.out _) (fun w' hg => (HS.out w' hg).sl) hn (by simp) (by simp; omega)).mono ?_; rintro e w2 ⟨rfl, hB, hg⟩; have hc : w2.cell? ⟨w.heap.size, 0, none⟩ = some (.pointer (some ⟨b, 0, none⟩)) := (only_cell hg (by simp) (by simp; omega)).trans (by simp); have hid := hB.id_; have HBB := Lib.hid hB; have HG := Lib.hid hg; clear hB hg)
    go_ret
    exact ⟨rfl, ⟨h0, k, HS.out _ HG.out, HBB.out⟩, only_then (only_alloc (World.grownBy.refl w _) _) HG.out⟩
  | true =>
    have h2' : LB w b k 1 0 (idOf bs) 1 := h2
    have hid := h2'.id_
    have H := Lib.hid h2'
    have HO := Lib.hid h1
    clear h1 h2 h2'
    go_enter Try.func13, Try.ntmps13
    go_wp2_with (go_at_call 28; refine (do_done ⟨b, 1, none⟩ _ _ (LB.done_ (Blk.alloc H.out _))).mono ?_; rintro e w2 ⟨rfl, rfl⟩)
    go_ret
    exact ⟨rfl, ⟨h0, k, World.ownsRow.alloc HO.out _, Blk.alloc H.out _⟩, only_alloc (World.grownBy.refl w _) _⟩

def LTimes (q : Bool) : Int := if q = true then 1 else 0
theorem ltimes_any (B b : Nat) (bs : List UInt8) (q : Bool) (w : World) (h : LZ w B b bs q) : Calls Try.prog 11 #[.pointer (some ⟨b, 0, none⟩)] w fun e w' => e = .returned (.int .i64 (LTimes q)) ∧ w = w' := by
  obtain ⟨h0, k, h1, h2⟩ := h
  have hc : w.cell? ⟨b, 5, none⟩ = some (.int .i64 (LTimes q)) := by cases q <;> exact LB.tm_ h2
  generalize LTimes q = t at *
  have HL := Lib.hid (load64 ⟨b, 5, none⟩ t w hc)
  clear hc h1 h2
  go_enter Try.func11, Try.ntmps11
  go_wp2_with (go_at_call 25; refine HL.out.mono ?_; rintro e w' ⟨rfl, rfl⟩)
  go_ret
  exact ⟨rfl, rfl⟩

theorem lbytes_any (B b : Nat) (bs : List UInt8) (q : Bool) (w : World) (h : LZ w B b bs q) (hn : bs.length ≤ 140737488351232) : Calls Try.prog 14 #[.pointer (some ⟨b, 0, none⟩)] w (OwnPost w bs) := by
  obtain ⟨h0, k, h1, h2⟩ := h
  have hc : w.cell? ⟨b, 0, none⟩ = some k := by cases q <;> exact LB.kept_ h2
  have HC := Lib.hid (clone_any k bs w h1.sl (by omega))
  clear h1 h2
  go_enter Try.func14, Try.ntmps14
  go_wp2_with (go_at_call 24; refine HC.out.mono ?_; rintro e w' ⟨v, rfl, ho, hb⟩; have HO := Lib.hid ho; have HB := Lib.hid hb; clear ho hb)
  go_ret
  exact ⟨v, rfl, HO.out, HB.out⟩
end Go.Proofs.Ytepgbpfnamaooaa.Ce
