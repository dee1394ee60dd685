/- Texts put together: WGs9, WGs10. -/
import Derived.Test.YtpfjlhpahmhkhaaGreatQf27
/- Package fsim: what users do. -/
namespace Go.Proofs.YtpfjlhpahmhkhaaGreat.Tx
open Go.RowKit Go.Maps Go.Proofs.YtpfjlhpahmhkhaaGreat.Sh

theorem path_short {p : List UInt8} (h : pathB p = true) : p.length ≤ 1000 := by
  have := ((pathB_iff p).1 h).1
  omega
theorem wr_ok {c : CSt} {p : List UInt8} {mode : Int} {data : List UInt8} {room : Int} {create : Bool} (h : wrE c p mode data room create = 0) : pathB p = true ∧ data.length ≤ 20000 := by
  unfold wrE at h
  split at h
  · cases h
  · rename_i hp
    split at h
    · cases h
    · split at h
      · cases h
      · rename_i hl
        exact ⟨by simpa using hp, by omega⟩
theorem CFits.wr {c : CSt} {N : Nat} (h : CFits c N) (p : List UInt8) (mode : Int) (data : List UInt8) (room : Int) (create : Bool) : CFits (wrC c p mode data room create) (N + 1) := by
  unfold wrC
  split
  · rename_i he
    obtain ⟨h1, h2⟩ := wr_ok he
    exact h.do_ ⟨Nat.zero_le _, path_short h1, h2⟩
  · exact h.more (by omega)
theorem CFits.rm {c : CSt} {N : Nat} (h : CFits c N) (p : List UInt8) : CFits (rmC c p) (N + 1) := by
  unfold rmC
  split
  · rename_i he
    have hp : pathB p = true := by
      unfold rmE at he
      split at he
      · cases he
      · rename_i hp; simpa using hp
    exact h.do_ ⟨path_short hp, Nat.zero_le _, Nat.zero_le _⟩
  · exact h.more (by omega)
theorem CFits.mv {c : CSt} {N : Nat} (h : CFits c N) (fr tt : List UInt8) (create : Bool) : CFits (mvC c fr tt create) (N + 1) := by
  unfold mvC
  split
  · rename_i he
    have hp : pathB fr = true ∧ pathB tt = true := by
      have he := he.1
      unfold mvE at he
      split at he
      · cases he
      · rename_i hp
        refine ⟨?_, ?_⟩
        · cases h1 : pathB fr with
          | true => rfl
          | false => exact absurd (.inl h1) hp
        · cases h1 : pathB tt with
          | true => rfl
          | false => exact absurd (.inr h1) hp
    exact h.do_ ⟨path_short hp.1, path_short hp.2, peek_short h.hrow fr⟩
  · exact h.more (by omega)
theorem CFits.note {c : CSt} {N : Nat} (h : CFits c N) (e : EvM) : CFits (noteC c e) (N + 1) := by
  have h1 : CFits { c with users := c.users ++ [{ e with at_ := c.calls }] } (N + 1) := by
    have h2 := h.users
    have h3 := h.more (N' := N + 1) (by omega)
    exact ⟨h3.here, h3.both, by rw [List.length_append]; simp; omega, h3.time0, h3.time, h3.hrow, h3.drow, h3.prow⟩
  exact h1.settle
def uwE (c : CSt) (p : List UInt8) (mode : Int) (data : List UInt8) : Int := if c.down = true then 12 else wrE c p mode data 9223372036854775807 false
def uwC (c : CSt) (p : List UInt8) (mode : Int) (data : List UInt8) : CSt := if uwE c p mode data = 0 then noteC (wrC c p mode data 9223372036854775807 false) ⟨0, 4, mode, 0, 0, p, data⟩ else c
def urE (c : CSt) (p : List UInt8) : Int := if c.down = true then 12 else rmE c p
def urC (c : CSt) (p : List UInt8) : CSt := if urE c p = 0 then noteC (rmC c p) ⟨0, 5, 0, 0, 0, p, []⟩ else c
theorem CFits.uw {c : CSt} {N : Nat} (h : CFits c N) (p : List UInt8) (mode : Int) (data : List UInt8) : CFits (uwC c p mode data) (N + 2) := by
  unfold uwC
  split
  · exact (h.wr p mode data _ false).note _
  · exact h.more (by omega)
theorem CFits.ur {c : CSt} {N : Nat} (h : CFits c N) (p : List UInt8) : CFits (urC c p) (N + 2) := by
  unfold urC
  split
  · exact (h.rm p).note _
  · exact h.more (by omega)

set_option maxRecDepth 100000 in
set_option maxHeartbeats 6400000 in
theorem userr_any (F M : Nat → Prop) (b : Nat) (c : CSt) (N : Nat) (p : List UInt8) (w : World) (h : FcAt F w b c M) (hf : CFits c N) (hN : N ≤ 700000) (hp : p.length ≤ 1000000) :
    Calls Tryz.prog 52 #[.pointer (some ⟨b, 0, none⟩), .string (str p)] w fun e w' => e = .returned (.int .i64 (urE c p)) ∧ FcPost F M w b (urC c p) w' := by
  have HAT := Lib.hid h
  have HF := Lib.hid hf
  obtain ⟨x, hX, _⟩ := h
  obtain ⟨dn, hdn⟩ : ∃ dn, c.down = dn := ⟨_, rfl⟩
  have c3 : w.cell? ⟨b, 3, none⟩ = some (.bool dn) := by rw [← hdn]; exact hX.blk.cell 3
  have HDN := Lib.hid hdn
  obtain ⟨we, hwe⟩ : ∃ we, urE c p = we := ⟨_, rfl⟩
  have HWE := Lib.hid hwe
  have HNO : Hid (we ≠ 0 → urC c p = c) := fun h0 => by unfold urC; rw [if_neg (by rw [HWE.out]; exact h0)]
  clear hf hX hdn hwe
  rw [HWE.out]
  go_enter Tryz.func52, Tryz.ntmps52
  cases dn with
  | true =>
    have HE : Hid (we = 12) := by unfold Hid; rw [← HWE.out]; unfold urE; rw [if_pos HDN.out]
    go_wp2_with fail
    go_ret
    refine ⟨by rw [HE.out]; rfl, ?_⟩
    rw [HNO.out (by rw [HE.out]; decide)]
    exact FcPost.refl HAT.out
  | false =>
    have HU : Hid (rmE c p = we) := by unfold Hid; rw [← HWE.out]; unfold urE; rw [if_neg (by rw [HDN.out]; decide)]
    go_wp2_with fail
    refine (remove_any F M b c p w HAT.out (HF.out.small (by omega)) hp).mono ?_
    rintro e w1 ⟨rfl, hp1⟩
    rw [HU.out]
    have HP1 := Lib.hid hp1
    clear hp1 c3
    by_cases h0 : we = 0
    · subst h0
      have HC : Hid (urC c p = noteC (rmC c p) ⟨0, 5, 0, 0, 0, p, []⟩) := by unfold Hid urC; rw [if_pos HWE.out]
      obtain ⟨M1, hat1, hon1, hsub1⟩ := HP1.out
      have HA1 := Lib.hid hat1
      have HO1 := Lib.hid hon1
      have HS1 := Lib.hid hsub1
      have HF1 := Lib.hid (HF.out.rm p)
      have HNOTE : Hid (Calls Tryz.prog 72 #[.pointer (some ⟨b, 0, none⟩), .agg #[.int .i64 0, .int .i64 5, .int .i64 0, .int .i64 0, .int .i64 0, .string (str p), .slice none 0 0]] w1 fun e w' => e = .returned (.tuple #[]) ∧ FcPost F M w b (urC c p) w') := by
        have hd := note_any _ M1 b (rmC c p) ⟨0, 5, 0, 0, 0, p, []⟩ (.slice none 0 0) w1 hat1 (By.nil_ _ _) (HF1.out.small (by omega)) (by have := HF1.out.users; omega)
        refine hd.mono ?_
        rintro e w' ⟨rfl, hpo⟩
        rw [HC.out]
        exact ⟨rfl, FcPost.trans HO1.out HS1.out hpo⟩
      clear hat1 hon1 hsub1
      go_wp2_with fail
      refine HNOTE.out.mono ?_
      rintro e w2 ⟨rfl, hp2⟩
      have HP2 := Lib.hid hp2
      clear hp2
      go_wp2_with fail
      go_ret
      exact ⟨rfl, HP2.out⟩
    · have e1 : (we == 0) = false := by rw [beq_eq_false_iff_ne]; exact h0
      have HC := Lib.hid (HNO.out h0)
      have HRC : Hid (rmC c p = c) := rm_no HU.out h0
      clear h0
      go_wp2_with fail
      go_ret
      refine ⟨rfl, ?_⟩
      rw [HC.out]
      have := HP1.out
      rw [HRC.out] at this
      exact this

set_option maxRecDepth 100000 in
set_option maxHeartbeats 6400000 in
theorem userw_any (F M : Nat → Prop) (b : Nat) (c : CSt) (N : Nat) (p : List UInt8) (mode : Int) (dv : Value) (data : List UInt8) (G : Nat → Prop) (w : World) (h : FcAt F w b c M) (hf : CFits c N) (hN : N ≤ 700000) (hdv : By G w dv data) (hG : ∀ k, G k → ¬ M k) (hp : p.length ≤ 1000000) :
    Calls Tryz.prog 15 #[.pointer (some ⟨b, 0, none⟩), .string (str p), .int .i64 mode, dv] w fun e w' => e = .returned (.int .i64 (uwE c p mode data)) ∧ FcPost F M w b (uwC c p mode data) w' := by
  have HAT := Lib.hid h
  have HF := Lib.hid hf
  have HDV := Lib.hid hdv
  have HG := Lib.hid hG
  obtain ⟨dA, dc, rfl, _, _⟩ := hdv.slice
  obtain ⟨n, hn⟩ : ∃ n, data.length = n := ⟨_, rfl⟩
  have HN := Lib.hid hn
  obtain ⟨x, hX, _⟩ := h
  obtain ⟨dn, hdn⟩ : ∃ dn, c.down = dn := ⟨_, rfl⟩
  have c3 : w.cell? ⟨b, 3, none⟩ = some (.bool dn) := by rw [← hdn]; exact hX.blk.cell 3
  have HDN := Lib.hid hdn
  obtain ⟨we, hwe⟩ : ∃ we, uwE c p mode data = we := ⟨_, rfl⟩
  have HWE := Lib.hid hwe
  have HNO : Hid (we ≠ 0 → uwC c p mode data = c) := fun h0 => by unfold uwC; rw [if_neg (by rw [HWE.out]; exact h0)]
  have HWR : Hid (Calls Tryz.prog 71 #[.pointer (some ⟨b, 0, none⟩), .string (str p), .int .i64 mode, .slice dA n dc, .int .i64 9223372036854775807, .bool false] w fun e w' => e = .returned (.int .i64 (wrE c p mode data 9223372036854775807 false)) ∧ FcPost F M w b (wrC c p mode data 9223372036854775807 false) w') := by
    have h1 : SlV w (.slice dA data.length dc) (data.map bv) := Rd.slv (by rw [List.length_map]; exact hdv)
    rw [hn] at h1
    exact write_any F M b c p mode (.slice dA n dc) data 9223372036854775807 false w HAT.out (HF.out.small (by omega)) h1 hp
  rw [hn]
  clear hf hX hdn hwe hdv hG hn
  rw [HWE.out]
  go_enter Tryz.func15, Tryz.ntmps15
  cases dn with
  | true =>
    have HE : Hid (we = 12) := by unfold Hid; rw [← HWE.out]; unfold uwE; rw [if_pos HDN.out]
    go_wp2_with fail
    go_ret
    refine ⟨by rw [HE.out]; rfl, ?_⟩
    rw [HNO.out (by rw [HE.out]; decide)]
    exact FcPost.refl HAT.out
  | false =>
    have HU : Hid (wrE c p mode data 9223372036854775807 false = we) := by unfold Hid; rw [← HWE.out]; unfold uwE; rw [if_neg (by rw [HDN.out]; decide)]
    go_wp2_with fail
    refine HWR.out.mono ?_
    rintro e w1 ⟨rfl, hp1⟩
    rw [HU.out]
    have HP1 := Lib.hid hp1
    clear hp1 c3
    by_cases h0 : we = 0
    · subst h0
      have HC : Hid (uwC c p mode data = noteC (wrC c p mode data 9223372036854775807 false) ⟨0, 4, mode, 0, 0, p, data⟩) := by unfold Hid uwC; rw [if_pos HWE.out]
      have HDL := Lib.hid (wr_ok HU.out).2
      obtain ⟨M1, hat1, hon1, hsub1⟩ := HP1.out
      have HA1 := Lib.hid hat1
      have HO1 := Lib.hid hon1
      have HS1 := Lib.hid hsub1
      have HF1 := Lib.hid (HF.out.wr p mode data 9223372036854775807 false)
      have hdv1 := HDV.out.only hon1 HG.out
      have HDV1 : Hid (SlV w1 (.slice dA n dc) (data.map bv)) := by
        have : SlV w1 (.slice dA data.length dc) (data.map bv) := Rd.slv (by rw [List.length_map]; exact hdv1)
        rw [HN.out] at this
        exact this
      clear hat1 hon1 hsub1 hdv1
      go_wp2_with fail
      refine (bclone_any _ data _ HDV1.out (by have := HDL.out; omega)).mono ?_
      rintro e w2 ⟨v2, rfl, ho2, hb2⟩
      obtain ⟨A2, c2, rfl, _, _⟩ := ho2.length
      rw [List.length_map, HN.out] at ho2 ⊢
      have HNOTE : Hid (Calls Tryz.prog 72 #[.pointer (some ⟨b, 0, none⟩), .agg #[.int .i64 0, .int .i64 4, .int .i64 mode, .int .i64 0, .int .i64 0, .string (str p), .slice A2 n c2]] w2 fun e w' => e = .returned (.tuple #[]) ∧ FcPost F M w b (uwC c p mode data) w') := by
        have hMlt : ∀ k, M1 k → k < w1.heap.size := HA1.out.lt
        have hFlt : ∀ k, grow F w w1 M1 k → k < w1.heap.size := HA1.out.low
        have hat : FcAt (fun k => grow F w w1 M1 k ∨ (w1.heap.size ≤ k ∧ k < w2.heap.size)) w2 b (wrC c p mode data 9223372036854775807 false) M1 := (HA1.out.below hb2).wide (w := w1) (fun k hk => hk) (fun k hk => .inl hk) hMlt
        have hd := note_any _ M1 b (wrC c p mode data 9223372036854775807 false) ⟨0, 4, mode, 0, 0, p, data⟩ (.slice A2 n c2) w2 hat ho2.by_ (HF1.out.small (by omega)) (by have := HF1.out.users; omega)
        refine hd.mono ?_
        rintro e w' ⟨rfl, hpo⟩
        rw [HC.out]
        exact ⟨rfl, FcPost.trans HO1.out HS1.out (FcPost.wide hb2 hpo (fun k hk => hk) (fun k hk => .inl hk) hMlt hFlt)⟩
      clear ho2 hb2
      go_wp2_with fail
      refine HNOTE.out.mono ?_
      rintro e w3 ⟨rfl, hp3⟩
      have HP3 := Lib.hid hp3
      clear hp3
      go_wp2_with fail
      go_ret
      exact ⟨rfl, HP3.out⟩
    · have e1 : (we == 0) = false := by rw [beq_eq_false_iff_ne]; exact h0
      have HC := Lib.hid (HNO.out h0)
      have HRC : Hid (wrC c p mode data 9223372036854775807 false = c) := wr_no HU.out h0
      clear h0
      go_wp2_with fail
      go_ret
      refine ⟨rfl, ?_⟩
      rw [HC.out]
      have := HP1.out
      rw [HRC.out] at this
      exact this
end Go.Proofs.YtpfjlhpahmhkhaaGreat.Tx
/- Package fsim: what a fall needs. -/
namespace Go.Proofs.YtpfjlhpahmhkhaaGreat.Tx
open Go.RowKit Go.Maps Go.Proofs.YtpfjlhpahmhkhaaGreat.Sh

def tearsB (q : ChM) (torn : Int) : Bool := decide (q.gone = []) && (decide (0 ≤ torn) && decide (torn < (q.f.data.length : Int)))
set_option maxRecDepth 100000 in
set_option maxHeartbeats 1600000 in
theorem tears_any (q : ChM) (dA : Option Addr) (n dc : Nat) (torn : Int) (w : World) (hn : q.f.data.length = n) :
    Calls Tryz.prog 74 #[.agg #[.string (str q.gone), .string (str q.path), .int .i64 q.f.mode, .slice dA n dc, .int .i64 q.f.time], .int .i64 torn] w fun e w' => e = .returned (.bool (tearsB q torn)) ∧ Below w.heap.size w w' := by
  have HN := Lib.hid hn
  clear hn
  have HB : Hid (Below w.heap.size w (w.alloc (.cells #[.string (str q.gone), .string (str q.path), .int .i64 q.f.mode, .slice dA n dc, .int .i64 q.f.time] 146))) := (Below.refl _ _).alloc (Nat.le_refl _) _
  go_enter Tryz.func74, Tryz.ntmps74
  by_cases hg : q.gone = []
  · have HG := Lib.hid hg
    obtain ⟨z2, z3⟩ := str_nil hg
    clear hg
    by_cases h0 : 0 ≤ torn
    · by_cases h1 : torn < (n : Int)
      · have HT : Hid (tearsB q torn = true) := by unfold Hid tearsB; rw [decide_eq_true HG.out, decide_eq_true h0, HN.out, decide_eq_true h1]; rfl
        go_wp2
        go_ret
        exact ⟨by rw [HT.out]; rfl, HB.out⟩
      · have HT : Hid (tearsB q torn = false) := by unfold Hid tearsB; rw [decide_eq_true HG.out, decide_eq_true h0, HN.out, decide_eq_false h1]; rfl
        go_wp2
        go_ret
        exact ⟨by rw [HT.out]; rfl, HB.out⟩
    · have HT : Hid (tearsB q torn = false) := by unfold Hid tearsB; rw [decide_eq_true HG.out, decide_eq_false h0]; rfl
      go_wp2
      go_ret
      exact ⟨by rw [HT.out]; rfl, HB.out⟩
  · have HG := Lib.hid hg
    obtain ⟨z2, z3⟩ := str_some hg
    clear hg
    have HT : Hid (tearsB q torn = false) := by unfold Hid tearsB; rw [decide_eq_false HG.out]; rfl
    go_wp2
    go_ret
    exact ⟨by rw [HT.out]; rfl, HB.out⟩

theorem size_ch (w : World) : (sizeOf (Tryz.prog.elem 133)).run Tryz.prog w = .ok 5 w := by kernel_rfl
set_option maxRecDepth 100000 in
theorem chs_front (A : Option Addr) (l c k : Nat) (hkc : k ≤ c) (w : World) : (Instr.slice 133 (.slice A l c) none (some (.int .i64 (k : Int))) none).run Tryz.prog w = .ok (.slice A k c) w := by
  rw [run_slice_h w 133 A l c Tryz.underlying133 .i64 k (by omega) (by omega), size_ch]
  simp only [Result.andThen_ok, sliced, Int.toNat_natCast]
  by_cases h : c = 0
  · subst h; simp
  · have e : A.map (fun a => a.add 0) = A := by cases A <;> simp [Addr.add]
    simp [h, e]
set_option maxRecDepth 100000 in
theorem chs_back (A : Option Addr) (l c k : Nat) (hkl : k ≤ l) (w : World) : (Instr.slice 133 (.slice A l c) (some (.int .i64 (k : Int))) none none).run Tryz.prog w = .ok (.slice (if c = k then A else A.map (fun a => a.add (k * 5))) (l - k) (c - k)) w := by
  rw [run_slice_l w 133 A l c Tryz.underlying133 .i64 k (by omega) (by omega), size_ch]
  simp only [Result.andThen_ok, sliced, Int.toNat_natCast]
theorem OwnL.take {K : Shape} {T : TypeId} {F : Nat → Prop} {w : World} {B : Nat} {A : Option Addr} {n c : Nat} {l : List K.α} (h : OwnL K T F w B (.slice A n c) l) (k : Nat) (hk : k ≤ n) : OwnL K T F w B (.slice A k c) (l.take k) := by
  obtain ⟨⟨ds, h1, h2⟩, h3⟩ := h
  have hl : n = l.length := by
    obtain ⟨A', c', e, _⟩ := (TmpL.slice (K := K) (F := F) (w := w) (v := .slice A n c) (l := l) ⟨ds, Rd.of_own h1 (fun _ _ => trivial), h2⟩)
    injection e
  have hdl := h2.1
  rw [List.length_map] at hdl
  have hcut : ShC K (l.take k) (ds.take k) = (ShC K l ds).take (k * K.m) := by
    have e1 : ShC K l ds = ShC K (l.take k) (ds.take k) ++ ShC K (l.drop k) (ds.drop k) := by
      rw [← ShC_app (by rw [List.length_take, List.length_take, hdl]), List.take_append_drop, List.take_append_drop]
    have e2 : (ShC K (l.take k) (ds.take k)).length = k * K.m := by
      rw [ShC_length (by rw [List.length_take, List.length_take, hdl]), List.length_take, Nat.min_eq_left (by omega)]
    rw [e1, ← e2, List.take_left]
  have hkl : (l.take k).length = k := by rw [List.length_take, Nat.min_eq_left (by omega)]
  refine ⟨⟨ds.take k, ?_, ?_⟩, fun g hg => ?_⟩
  · rw [hkl, hcut]
    obtain ⟨g1, g2⟩ := h1
    refine ⟨?_, ?_⟩
    · rw [List.length_take, g1]
      exact Nat.min_eq_left (Nat.mul_le_mul_right _ (by omega))
    · rcases g2 with ⟨e, e0⟩ | ⟨g, cap, cur, e, hb, hg, h4, h5, h6, h7⟩
      · injection e with ea eb ec
        left
        subst ea ec
        have : k = 0 := by omega
        subst this
        exact ⟨rfl, rfl⟩
      · injection e with ea eb ec
        right
        subst ea ec
        refine ⟨g, c, cur, rfl, hb, hg, by omega, h5, h6, ?_⟩
        rw [← h7, List.take_take, Nat.min_eq_left (Nat.mul_le_mul_right _ (by omega))]
  · refine ⟨by rw [List.length_take, List.length_map, List.length_take, hdl], fun i d bs hd hbs => ?_⟩
    have hi : i < k := by
      have := (List.getElem?_eq_some_iff.1 hd).1
      rw [List.length_take] at this
      omega
    rw [List.getElem?_take_of_lt hi] at hd
    rw [List.map_take, List.getElem?_take_of_lt hi] at hbs
    exact h2.2 i d bs hd hbs
  · refine h3 g ?_
    cases A with
    | none => cases hg
    | some ad => exact hg
section
variable {F M : Nat → Prop} {w w' : World} {b : Nat} {c : CSt} {x : FcV}
/-- Another tree of what is there. -/
theorem FcX.newhere (hX : FcX F w b c x) (hM : ∀ k, M k ↔ fcM b x k) {t' : Nat} {R : List RowM} (h : NewTree F w w' t' R) : FcPost F M w b { c with here := R } (w'.setCell ⟨b, 6, none⟩ (.pointer (some ⟨t', 0, none⟩))) := by
  obtain ⟨hb, f', u', hT, hl⟩ := h
  have ow : Only (fun k => k = b) w (w'.setCell ⟨b, 6, none⟩ (.pointer (some ⟨t', 0, none⟩))) := Only.set_ (M := fun k => k = b) (g := b) (i := 6) (Only.of_below hb) (.inl rfl) _
  have o2 : Only (fun k => k = b) w' (w'.setCell ⟨b, 6, none⟩ (.pointer (some ⟨t', 0, none⟩))) := Only.set_ (M := fun k => k = b) (g := b) (i := 6) (Only.refl _ w') (.inl rfl) _
  have hbw := hX.blk.lt
  refine fc_fin (x' := { x with here := t', hf := f', hu := u' }) hX hM (ow.more (fun k _ e => .inl e)) (fun k hk => ?_) ((hX.blk.below hb hbw).set_ 6 _) ?_ ?_ ?_ ?_ ?_ (fun k hk hd => ?_)
  · rcases hk with h | h | h | h | h
    · exact .inl (.inl h)
    · exact .inr (hl k h)
    · exact .inl (.inr (.inr (.inl h)))
    · exact .inl (.inr (.inr (.inr (.inl h))))
    · exact .inl (.inr (.inr (.inr (.inr h))))
  · exact (hT.only o2 hX.Fb (fun k hk e => by have := hl k hk; omega)).mono (fun _ _ h => .inl h)
  · exact hX.durG ow hX.Fb (fun k hk e => hX.db (e ▸ hk))
  · exact hX.pendG ow hX.Fb (fun k hk e => hX.pb (e ▸ hk)) (fun k hk => .inr (.inr (.inr (.inl hk))))
  · exact hX.planG ow hX.Fb
  · exact hX.usersG ow hX.Fb (fun k hk e => hX.ub (e ▸ hk)) (fun k hk => .inr (.inr (.inr (.inr hk))))
  · have := hl k hk
    have := hX.dur.lt k hd
    omega
end
def keepC (c : CSt) (keep : Int) : Nat := (min (max keep 0) (c.pending.length : Int)).toNat
def partC (q : ChM) (torn : Int) : ChM := { q with f := { q.f with data := q.f.data.take torn.toNat } }
def leftC (c : CSt) (keep torn : Int) : List ChM := c.pending.take (keepC c keep) ++ match c.pending[keepC c keep]? with
  | none => []
  | some q => if tearsB q torn = true then [partC q torn] else []
def crC (c : CSt) (keep torn : Int) : CSt := if c.down = true then c else
  let s := settleC { c with pending := leftC c keep torn }
  { s with here := s.durable, down := true }
end Go.Proofs.YtpfjlhpahmhkhaaGreat.Tx
