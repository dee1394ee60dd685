/- Texts put together: Fx21, Gs3. -/
import Derived.Test.YtfmlnodhbojdpaaGreatQc34
import Derived.Test.YtfmlnodhbojdpaaGreatQc33
/- The reference's file system: User, Plan. -/
namespace Go.Proofs.YtfmlnodhbojdpaaGreat.Tx
open Go.RowKit Go.Proofs.YtfmlnodhbojdpaaGreat.Sh

def UserPost (F : Nat → Prop) (w : World) (l : List EvM) (e : Ending) (w' : World) : Prop := ∃ v, e = .returned v ∧ OwnL evK 129 F w' w.heap.size v l ∧ Below w.heap.size w w'
set_option maxRecDepth 100000 in
set_option maxHeartbeats 1600000 in
theorem ruser_any {F M : Nat → Prop} {b : Nat} {st : FSM} {w : World} (h : RefAt F w b st M) (hn : st.user.length ≤ 1000000) : Calls Tryz.prog 98 #[.pointer (some ⟨b, 0, none⟩)] w (UserPost F w st.user) := by
  obtain ⟨x, hX, hM⟩ := h
  have hwa : Blk (w.alloc (.cells #[] 129)) b 104 (fsC st x) := hX.blk.alloc _
  have c8 : (w.alloc (.cells #[] 129)).cell? ⟨b, 8, none⟩ = some x.user := hwa.cell 8
  have HRE := Lib.hid (OwnL.empty (K := evK) (F := F) (B := w.heap.size) (Blk.new w 129 #[]) (Nat.le_refl _) (fun hk => by have := hX.low _ hk; omega))
  have HU := Lib.hid (hX.user.tmp.alloc (.cells #[] 129))
  have hz : w.heap.size ≤ (w.alloc (.cells #[] 129)).heap.size := ((Below.refl w.heap.size w).alloc (Nat.le_refl _) _).size
  have HZ := Lib.hid hz
  have HF : Hid (∀ k, F k → k < (w.alloc (.cells #[] 129)).heap.size) := fun k hk => Nat.lt_of_lt_of_le (hX.low k hk) hz
  have hsm : List.length (α := evK.α) [] + List.length (α := evK.α) st.user ≤ 2000000 := by show 0 + st.user.length ≤ 2000000; omega
  have HSM := Lib.hid hsm
  clear hX hM hwa hz hsm hn
  go_enter Tryz.func98, Tryz.ntmps98
  go_wp2_with (at_builtin; refine list_appendL typed_ev rfl (.tmp 3) (.tmp 7) rfl HRE.out HU.out rfl rfl HSM.out HZ.out HF.out ?_; intro v3 w3 ho3 hg3 hb3; have HO3 := Lib.hid ho3; have HG3 := Lib.hid hg3; clear ho3 hg3 hb3)
  go_ret
  refine ⟨v3, rfl, HO3.out, ?_⟩
  exact ((Below.refl w.heap.size w).alloc (Nat.le_refl _) _).trans (below_of_only HG3.out (Nat.le_refl _) HZ.out)
end Go.Proofs.YtfmlnodhbojdpaaGreat.Tx
/- Package fsim: bytes copied; what is asked of a file system. -/
namespace Go.Proofs.YtfmlnodhbojdpaaGreat.Tx
open Go.RowKit Go.Maps Go.Proofs.YtfmlnodhbojdpaaGreat.Sh

set_option maxRecDepth 100000 in
set_option maxHeartbeats 400000 in
theorem bclone_any (v : Value) (bs : List UInt8) (w : World) (h : SlV w v (bs.map bv)) (hn : bs.length ≤ 2000000) : Calls Tryz.prog 67 #[v] w fun e w' => ∃ v', e = .returned v' ∧ OwnV 5 w' w.heap.size v' (bs.map bv) ∧ Below w.heap.size w w' := by
  obtain ⟨A, c, rfl, hlc, hcm, hR⟩ := (h.below ((Below.refl w.heap.size w).alloc (Nat.le_refl _) (.cells #[] 5))).len
  rw [List.length_map] at hlc hR ⊢
  obtain ⟨l, hl⟩ : ∃ l, bs.length = l := ⟨_, rfl⟩
  have hnil := fun (w : World) => Lib.run_eql_slice_nil (P := Tryz.prog) w 32 5 A l c 0 0 Tryz.underlying32
  rcases A with _ | ad
  · have hb0 : bs = [] := by
      cases bs with
      | nil => rfl
      | cons x r =>
        obtain ⟨ad, e, _⟩ := hR.2 (by simp)
        cases e
    subst hb0
    simp only [List.length_nil] at hl hnil
    subst hl
    simp only [Option.isNone] at hnil
    clear hR hlc hcm h
    go_enter Tryz.func67, Tryz.ntmps67
    go_wp2_with fail
    go_ret
    exact ⟨_, rfl, OwnV.nil_ _ _, Below.refl _ _⟩
  · have hown : OwnV 5 (w.alloc (.cells #[] 5)) w.heap.size (.slice (some ⟨w.heap.size, 0, none⟩) 0 0) (([] : List UInt8).map bv) := World.ownsRow_made w #[] 0 (Nat.le_refl _) (by unfold maxLen; omega) rfl
    rw [hl] at hR hn ⊢
    simp only [Option.isNone] at hnil
    have hsm : ([] : List UInt8).length + l ≤ 140737488355328 := by simp; omega
    have hz : w.heap.size ≤ (w.alloc (.cells #[] 5)).heap.size := by simp
    have HR := Lib.hid hR
    have HOWN := Lib.hid hown
    clear hR hown hl h hlc hcm
    go_enter Tryz.func67, Tryz.ntmps67
    go_wp2_with (at_builtin; refine append_bytes rfl (.tmp 5) (.tmp 6) rfl _ w.heap.size (.slice (some ⟨w.heap.size, 0, none⟩) 0 0) [] rfl HOWN.out _ (some ad) l c bs rfl HR.out hsm hz ?_; intro v3 w3 ho3 hb3; have HO := Lib.hid ho3; have HB := Lib.hid hb3; clear ho3 hb3)
    go_ret
    refine ⟨v3, rfl, ?_, ((Below.refl _ _).alloc (Nat.le_refl _) _).trans HB.out⟩
    simpa using HO.out

section
variable {F M : Nat → Prop} {b : Nat} {c : CSt} {w : World}
set_option maxRecDepth 100000 in
theorem up_any (h : FcAt F w b c M) : Calls Tryz.prog 37 #[.pointer (some ⟨b, 0, none⟩)] w fun e w' => e = .returned (.bool (!c.down)) ∧ w = w' := by
  obtain ⟨x, hX, _⟩ := h
  have c7 : w.cell? ⟨b, 3, none⟩ = some (.bool c.down) := hX.blk.cell 3
  clear hX
  go_enter Tryz.func37, Tryz.ntmps37
  go_wp2
  go_ret
  exact ⟨rfl, rfl⟩
set_option maxRecDepth 100000 in
theorem load64 (a : Addr) (x : Int) (w : World) (h : w.cell? a = some (.int .i64 x)) :
    Calls Tryz.prog 64 #[.pointer (some a)] w fun e w' => e = .returned (.int .i64 x) ∧ w = w' := by
  have hl := run_call_load (P := Tryz.prog) Tryz.func137 (by kernel_rfl) (by kernel_rfl) (by kernel_rfl) .i64 (by kernel_rfl) h
  go_enter Tryz.func64, Tryz.ntmps64
  go_wp2
  go_ret
  exact ⟨rfl, rfl⟩
set_option maxRecDepth 100000 in
theorem add64 (a : Addr) (x y : Int) (w : World) (h : w.cell? a = some (.int .i64 x)) (hz : w.frozen? a = false) :
    Calls Tryz.prog 157 #[.pointer (some a), .int .i64 y] w fun e w' => e = .returned (.int .i64 (IntKind.i64.wrap (x + y))) ∧ w' = w.setCell a (.int .i64 (IntKind.i64.wrap (x + y))) := by
  have hl := run_call_add (P := Tryz.prog) Tryz.func188 (by kernel_rfl) (by kernel_rfl) (by kernel_rfl) .i64 (by kernel_rfl) (y := y) (s := IntKind.i64.wrap (x + y)) h hz (by simp [Op.intArith])
  generalize IntKind.i64.wrap (x + y) = s at *
  go_enter Tryz.func157, Tryz.ntmps157
  go_wp2
  go_ret
  exact ⟨rfl, rfl⟩
set_option maxRecDepth 100000 in
theorem calls_any (h : FcAt F w b c M) : Calls Tryz.prog 42 #[.pointer (some ⟨b, 0, none⟩)] w fun e w' => e = .returned (.int .i64 c.calls) ∧ w = w' := by
  obtain ⟨x, hX, _⟩ := h
  have hc : w.cell? ⟨b, 1, none⟩ = some (.int .i64 c.calls) := hX.blk.cell 1
  clear hX
  go_enter Tryz.func42, Tryz.ntmps42
  go_wp2_with (go_at_call 64; refine (load64 _ c.calls _ hc).mono ?_; rintro e w' ⟨rfl, rfl⟩)
  go_ret
  exact ⟨rfl, rfl⟩
set_option maxRecDepth 100000 in
theorem now_any (h : FcAt F w b c M) : Calls Tryz.prog 28 #[.pointer (some ⟨b, 0, none⟩)] w fun e w' => e = .returned (.int .i64 c.time) ∧ w = w' := by
  obtain ⟨x, hX, _⟩ := h
  have hc : w.cell? ⟨b, 2, none⟩ = some (.int .i64 c.time) := hX.blk.cell 2
  clear hX
  go_enter Tryz.func28, Tryz.ntmps28
  go_wp2
  go_ret
  exact ⟨rfl, rfl⟩
set_option maxRecDepth 100000 in
theorem fused_any (h : FcAt F w b c M) : Calls Tryz.prog 29 #[.pointer (some ⟨b, 0, none⟩)] w fun e w' => e = .returned (.int .i64 (usedM c.here)) ∧ w = w' := by
  obtain ⟨x, hX, _⟩ := h
  have hc : w.cell? ⟨b, 6, none⟩ = some (.pointer (some ⟨x.here, 0, none⟩)) := hX.blk.cell 6
  have hd : w.cell? ⟨x.here, 2, none⟩ = some (.int .i64 (usedM c.here)) := hX.here.blk.cell 2
  clear hX
  go_enter Tryz.func29, Tryz.ntmps29
  go_wp2
  go_ret
  exact ⟨rfl, rfl⟩
set_option maxRecDepth 100000 in
theorem pending_any (h : FcAt F w b c M) : Calls Tryz.prog 36 #[.pointer (some ⟨b, 0, none⟩)] w fun e w' => e = .returned (.int .i64 c.pending.length) ∧ w = w' := by
  obtain ⟨x, hX, _⟩ := h
  obtain ⟨PA, pc, hPA, _, _, _⟩ := hX.chs
  have c3 : w.cell? ⟨b, 8, none⟩ = some (.slice PA c.pending.length pc) := by rw [← hPA]; exact hX.blk.cell 8
  clear hX hPA
  obtain ⟨n, hn⟩ : ∃ n, c.pending.length = n := ⟨_, rfl⟩
  rw [hn] at c3 ⊢
  clear hn
  go_enter Tryz.func36, Tryz.ntmps36
  go_wp2
  go_ret
  exact ⟨rfl, rfl⟩
set_option maxRecDepth 100000 in
theorem reboot_any (h : FcAt F w b c M) : Calls Tryz.prog 32 #[.pointer (some ⟨b, 0, none⟩)] w fun e w' => e = .returned (.tuple #[]) ∧ FcPost F M w b { c with down := false } w' := by
  obtain ⟨x, hX, hM⟩ := h
  have c7 : w.cell? ⟨b, 3, none⟩ = some (.bool c.down) := hX.blk.cell 3
  have c7f : w.frozen? ⟨b, 3, none⟩ = false := hX.blk.frozen 3
  have HF := Lib.hid (fc_cell (c' := { c with down := false }) 3 (.bool false) hX hM rfl rfl rfl rfl rfl rfl)
  clear hX hM
  go_enter Tryz.func32, Tryz.ntmps32
  go_wp2
  go_end0
  exact ⟨rfl, HF.out⟩
set_option maxRecDepth 100000 in
theorem paths_any (h : FcAt F w b c M) (hs : CSmall c) : Calls Tryz.prog 23 #[.pointer (some ⟨b, 0, none⟩)] w (TextsPost w ((pathsM c.here).map str)) := by
  obtain ⟨x, hX, _⟩ := h
  have hc : w.cell? ⟨b, 6, none⟩ = some (.pointer (some ⟨x.here, 0, none⟩)) := hX.blk.cell 6
  have hl : listC c.here [] = pathsM c.here := by
    unfold listC
    exact List.filter_eq_self.2 fun q _ => rfl
  have HP := Lib.hid (tpaths_any F x.here x.hf x.hu c.here [] w hX.here (by have := hs.here; omega) (by simp))
  rw [hl] at HP
  clear hX hl
  go_enter Tryz.func23, Tryz.ntmps23
  go_wp2_with fail
  refine HP.out.mono ?_
  rintro e w1 ⟨v, rfl, ho, hb⟩
  have HO := Lib.hid ho
  have HB := Lib.hid hb
  clear ho hb
  go_wp2_with fail
  go_ret
  exact ⟨v, rfl, HO.out, HB.out⟩
end
def newC (room : Int) : CSt := ⟨room, 0, 0, false, [], [], [], [], []⟩
set_option maxRecDepth 100000 in
set_option maxHeartbeats 1600000 in
theorem new_any (F : Nat → Prop) (room : Int) (w : World) (hF : ∀ k, F k → k < w.heap.size) : Calls Tryz.prog 15 #[.int .i64 room] w fun e w' => Below w.heap.size w w' ∧ (newB room = false ∧ e = .returned (.tuple #[.pointer none, .int .i64 1]) ∨ newB room = true ∧ ∃ b M, w.heap.size ≤ b ∧ (∀ k, M k → w.heap.size ≤ k) ∧ e = .returned (.tuple #[.pointer (some ⟨b, 0, none⟩), .int .i64 0]) ∧ FcAt F w' b (newC room) M) := by
  have HF := Lib.hid hF
  go_enter Tryz.func15, Tryz.ntmps15
  by_cases h1 : room < 0
  · have HNB : Hid (newB room = false) := decide_eq_false (by omega)
    go_wp2
    go_ret2
    exact ⟨Below.refl _ _, .inl ⟨HNB.out, rfl⟩⟩
  · by_cases h2 : 1073741824 < room
    · have HNB : Hid (newB room = false) := decide_eq_false (by omega)
      go_wp2
      go_ret2
      exact ⟨Below.refl _ _, .inl ⟨HNB.out, rfl⟩⟩
    · have HNB : Hid (newB room = true) := decide_eq_true (by omega)
      go_wp2_with fail
      refine (tnew_any F _).mono ?_
      rintro e w1 ⟨t1, rfl, hb1, f1, u1, hT1, hl1⟩
      go_wp2_with fail
      refine (tnew_any F _).mono ?_
      rintro e w2 ⟨t2, rfl, hb2, f2, u2, hT2, hl2⟩
      have HT1 := Lib.hid (hT1.below hb2)
      have HT2 := Lib.hid hT2
      have HL1 := Lib.hid hl1
      have HL2 := Lib.hid hl2
      have HB1 := Lib.hid hb1
      have HB2 := Lib.hid (hb1.trans (hb2.mono hb1.size))
      have HLT := Lib.hid hT1.lt
      clear hb1 hT1 hl1 hb2 hT2 hl2
      go_wp2_with fail
      go_ret2
      have hz1 := HB1.out.size
      have hz2 := HB2.out.size
      refine ⟨HB2.out.alloc hz2 _, .inr ⟨HNB.out, w2.heap.size, _, hz2, ?_, rfl, ⟨.slice none 0 0, .slice none 0 0, t1, t2, .slice none 0 0, f1, u1, f2, u2⟩, ⟨Blk.new _ _ _, ?_, ?_, OwnL.nil_ chK _ F _ 0, InL.nil_ evK F _, OwnL.nil_ evK _ F _ 0, ?_, ?_, ?_⟩, fun k => Iff.rfl⟩⟩
      · rintro k (rfl | h | h | h | h)
        · exact hz2
        · exact HL1.out k h
        · have := HL2.out k h; omega
        · cases h
        · cases h
      · exact HT1.out.below ((Below.refl _ _).alloc (Nat.le_refl _) _)
      · exact HT2.out.below ((Below.refl _ _).alloc (Nat.le_refl _) _)
      · intro k hk hm
        have := HF.out k hk
        rcases hm with rfl | h | h | h | h
        · omega
        · have := HL1.out k h; omega
        · have := HL2.out k h; omega
        · cases h
        · cases h
      · intro k hk
        have := HF.out k hk
        simp
        omega
      · intro k h h'
        have h1 := HLT.out k h
        have h2 := HL2.out k h'
        omega
end Go.Proofs.YtfmlnodhbojdpaaGreat.Tx
