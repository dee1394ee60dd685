/- Texts put together: USc8. -/
import Derived.Test.YtbenkmihkbjgeaaGreatQu38
import Derived.Deep.RegionLaw
/- Package scan: take, walked. (mk_sc7.py wrote it.) -/
set_option linter.unusedVariables false
set_option linter.unusedSimpArgs false
namespace Go.Proofs.YtbenkmihkbjgeaaGreat.Tx
open Go.RowKit Go.Maps Go.Proofs.YtbenkmihkbjgeaaGreat.Sh S7
theorem wp_cat (p : List UInt8) : (⟨#[119, 47]⟩ : ByteArray) ++ Tx.str p = Tx.str (wP p) := str_append [119, 47] p
theorem KeepsG.keepsT {w : World} {Z Z' : Nat → Prop} {g bf : Nat} {rv : Value} {w1 w2 : World} (h : KeepsG w Z' g w1 w2) (hz : ∀ k, Z k → Z' k) : KeepsT w Z g bf rv w1 w2 :=
 Only.more h (fun k _ hm => hm.imp id (fun hm => .inr (.inr ⟨fun hk => hm.1 (hz k hk), hm.2⟩)))
theorem KeepsT.trans {w : World} {Z : Nat → Prop} {g bf : Nat} {rv : Value} {w1 w2 w3 : World} (h : KeepsT w Z g bf rv w1 w2) (h2 : KeepsT w Z g bf rv w2 w3) : KeepsT w Z g bf rv w1 w3 := Only.trans h h2 (fun k hk => .inl hk)
set_option maxRecDepth 100000 in
set_option maxHeartbeats 6400000 in
theorem sctake_any {w wx : World} {b s x g bf i : Nat} {m : Option Nat} {rv : Value} {Z : Nat → Prop} {X : IxM} {S : ScM} (p : List UInt8) (hA : ScA w wx b s x g bf m rv Z S.c X S.rows S.files S.n) (hgx : g ≠ x) (hmb : ∀ k, m = some k → k ≠ bf) (hg : GoS S.c i) (hi : i ≤ 370000) (hp : p.length ≤ 800000) (hn : S.n ≤ 900000) (hfl : S.files.length ≤ 1000000) (hids : ∀ k ∈ X.files, k.id.length ≤ 800000) (hz : w.heap.size ≤ wx.heap.size) :
  Calls Tryz.prog 36 #[.pointer (some ⟨g, 0, none⟩), .string (Tx.str p)] wx (TakPost w wx b s x g bf m rv Z X S p) := by
 obtain ⟨c, rows, files, n⟩ := S
 have H0 : Hid (ScA w wx b s x g bf m rv Z c X rows files n) := hA
 have HG : Hid (GoS c i) := hg
 have HN : Hid (n ≤ 900000) := hn
 have HFL : Hid (files.length ≤ 1000000) := hfl
 have HIDS := Lib.hid hids
 have HGX := Lib.hid hgx
 have HMB := Lib.hid hmb
 have HZ := Lib.hid hz
 obtain ⟨rA, rc, hrv, hr1, hr2, _, _⟩ := H0.out.rows.slR
 obtain ⟨rl, hrl⟩ : ∃ l, rows.length = l := ⟨_, rfl⟩
 rw [hrl] at hrv hr1
 subst hrv
 unfold maxLen at hr2
 have HRL := Lib.hid hrl
 have cg0 : wx.cell? ⟨g, 0, none⟩ = some (.pointer (some ⟨b, 0, none⟩)) := H0.out.blk.cell 0
 have cg3 : wx.cell? ⟨g, 3, none⟩ = some (.slice rA rl rc) := H0.out.blk.cell 3
 have HLT : Hid (g < wx.heap.size) := H0.out.blk.lt
 clear hA hg hn hfl hids hgx hmb hz hrl
 by_cases h256 : 256 ≤ rl
 ·have y0 : decide ((256 : Int) ≤ (rl : Int)) = true := decide_eq_true (by omega)
  have y1 : decide (256 ≤ rl) = true := decide_eq_true h256
  have y2 : (256 : Int) ≤ (rl : Int) := by omega
  have HE : Hid (takE X ⟨c, rows, files, n⟩ p = 14 ∧ takS X ⟨c, rows, files, n⟩ p = ⟨c, rows, files, n⟩) := by
   unfold Hid takE takS
   dsimp only
   rw [HRL.out, if_pos h256, if_pos h256]
   exact ⟨rfl, rfl⟩
  clear h256
  go_enter Tryz.func36, Tryz.ntmps36
  go_wp2_with fail
  go_ret
  exact ⟨_, Z, by rw [HE.out.1]; rfl, by rw [HE.out.2]; exact H0.out, fun _ h => h, fun _ h => .inl h, fun _ h => .inl h, Only.refl _ _⟩
 have y0 : decide ((256 : Int) ≤ (rl : Int)) = false := decide_eq_false (by omega)
 have y1 : decide (256 ≤ rl) = false := decide_eq_false h256
 have y2 : ¬ (256 : Int) ≤ (rl : Int) := by omega
 have H256 : Hid (¬ 256 ≤ rows.length) := by unfold Hid; rw [HRL.out]; exact h256
 have hb : ¬ 9223372036854775807 < 2 + (Tx.str p).size := by rw [str_size]; omega
 obtain ⟨re, hre⟩ : ∃ k, redE c (wP p) = k := ⟨_, rfl⟩
 obtain ⟨f, hf⟩ : ∃ f, redF c (wP p) = f := ⟨_, rfl⟩
 obtain ⟨c2, hc2⟩ : ∃ k, (bgC c).c = k := ⟨_, rfl⟩
 obtain ⟨dl, hdl⟩ : ∃ k, f.data.length = k := ⟨_, rfl⟩
 have HT : Hid (((re = 7 → takE X ⟨c, rows, files, n⟩ p = 0) ∧ (re ≠ 7 → re ≠ 0 → takE X ⟨c, rows, files, n⟩ p = re) ∧ (re = 0 → takE X ⟨c, rows, files, n⟩ p = hashE X c2 p f)) ∧ (re ≠ 0 → takS X ⟨c, rows, files, n⟩ p = ⟨c2, rows, files, n⟩) ∧ (re = 0 → hashE X c2 p f ≠ 0 → takS X ⟨c, rows, files, n⟩ p = ⟨hashC X c2 p f, rows, files, n + hashN X c2 p f⟩) ∧
   (re = 0 → hashE X c2 p f = 0 → takS X ⟨c, rows, files, n⟩ p = ⟨hashC X c2 p f, rows ++ [⟨p, f.mode, hashV X c2 p f⟩], putK files ⟨p, f.time, hashV X c2 p f⟩, n + hashN X c2 p f⟩)) := by
  unfold Hid takE takS
  dsimp only
  rw [if_neg H256.out, if_neg H256.out, hre, hf, hc2]
  refine ⟨⟨fun h => by rw [if_pos h], fun h h2 => by rw [if_neg h, if_pos h2], fun h => by rw [if_neg (by rw [h]; decide), if_neg (fun e => e h)]⟩, fun h => by rw [if_pos h], fun h h2 => by rw [if_neg (fun e => e h), if_pos h2], fun h h2 => by rw [if_neg (fun e => e h), if_neg (fun e => e h2)]⟩
 have HRD := Lib.hid (rdn_any (wP p) H0.out.st.1 HG.out (by omega) (by unfold wP; simp; omega))
 rw [hre, hf, hc2] at HRD
 rw [hdl] at HRD
 have HDL := Lib.hid hdl
 have HG2 : Hid (GoS c2 (i + 1)) := by rw [← hc2]; exact HG.out.bg
 clear hre hf hc2 hdl h256
 go_enter Tryz.func36, Tryz.ntmps36
 go_wp2_with fail
 rw [wp_cat]
 refine HRD.out.mono ?_
 rintro e w2 ⟨dA, dc, D, rfl, hby, hD, hm, hk⟩
 have ha2 := H0.out.read hm hk hD
 have hbB : Below w2.heap.size w2 (w2.alloc (.cells #[.int .i64 f.mode, .slice dA dl dc, .int .i64 f.time] 129)) := (Below.refl _ _).alloc (Nat.le_refl _) _
 have HZ2 : Hid (wx.heap.size ≤ w2.heap.size) := Only.size hk
 obtain ⟨w3, hw3⟩ : ∃ W, W = w2.alloc (.cells #[.int .i64 f.mode, .slice dA dl dc, .int .i64 f.time] 129) := ⟨_, rfl⟩
 obtain ⟨B, hB⟩ : ∃ B, B = w2.heap.size := ⟨_, rfl⟩
 obtain ⟨Z3, hZ3⟩ : ∃ Z3 : Nat → Prop, Z3 = fun k => (Z k ∨ D k) ∨ (w2.heap.size ≤ k ∧ k < w3.heap.size) := ⟨_, rfl⟩
 have HA3 : Hid (ScA w w3 b s x g bf m (.slice rA rl rc) Z3 c2 X rows files n) := by rw [hZ3, hw3]; exact ha2.fresh hbB
 have HBK : Hid (Blk w3 B 129 #[.int .i64 f.mode, .slice dA dl dc, .int .i64 f.time]) := by rw [hw3, hB]; exact Blk.new _ _ _
 have HZ3 : Hid ((∀ k, Z k → Z3 k) ∧ (∀ k, Z3 k → Z k ∨ wx.heap.size ≤ k) ∧ (∀ k, D k → Z3 k ∧ k ≠ g) ∧ Z3 B ∧ B ≠ g) := by
  have h1 := HZ2.out
  have h2 := HLT.out
  refine ⟨fun k hk => by rw [hZ3]; exact .inl (.inl hk), fun k hk => ?_, fun k hk => ⟨by rw [hZ3]; exact .inl (.inr hk), fun e => by have := hD k hk; omega⟩, by rw [hZ3, hB]; exact .inr ⟨Nat.le_refl _, by rw [hw3]; simp⟩, by omega⟩
  rw [hZ3] at hk
  rcases hk with (hk | hk) | hk
  ·exact .inl hk
  ·exact .inr (hD k hk)
  ·exact .inr (by omega)
 have HK3 : Hid (KeepsT w Z g bf (.slice rA rl rc) wx w3) := by
  rw [hw3]
  exact (Only.more (Keeps.fewer hk (Z' := Z) (fun k hk => .inl hk)) (fun k _ hm => .inr (.inr (.inr hm)))).alloc _
 have HBY : Hid (By D w3 (.slice dA dl dc) f.data) := by rw [hw3]; exact hby.only (M := fun _ => False) (Only.of_below hbB) (fun _ _ => id)
 have HZ4 : Hid (w.heap.size ≤ w3.heap.size ∧ wx.heap.size ≤ w3.heap.size) := by
  have h1 := HZ.out
  have h2 := HZ2.out
  have h3 := hbB.size
  rw [← hw3] at h3
  unfold Hid
  omega
 clear hby hD hm hk ha2 hbB hZ3 HRD cg0
 by_cases h7 : re = 7
 ·subst h7
  have HE : Hid (takE X ⟨c, rows, files, n⟩ p = 0 ∧ takS X ⟨c, rows, files, n⟩ p = ⟨c2, rows, files, n⟩) := ⟨HT.out.1.1 rfl, HT.out.2.1 (by decide)⟩
  clear HT
  go_wp2_with fail
  rw [← hw3]
  go_ret
  exact ⟨_, Z3, by rw [HE.out.1]; rfl, by rw [HE.out.2]; exact HA3.out, HZ3.out.1, HZ3.out.2.1, fun _ h => .inl h, HK3.out⟩
 have e7 : (re == 7) = false := by simpa using h7
 by_cases h0 : re ≠ 0
 ·have e0 : (re != 0) = true := by simpa using h0
  have HE : Hid (takE X ⟨c, rows, files, n⟩ p = re ∧ takS X ⟨c, rows, files, n⟩ p = ⟨c2, rows, files, n⟩) := ⟨HT.out.1.2.1 h7 h0, HT.out.2.1 h0⟩
  clear h0 h7 HT
  go_wp2_with fail
  rw [← hw3]
  go_ret
  exact ⟨_, Z3, by rw [HE.out.1]; rfl, by rw [HE.out.2]; exact HA3.out, HZ3.out.1, HZ3.out.2.1, fun _ h => .inl h, HK3.out⟩
 obtain rfl : re = 0 := by omega
 clear h0 h7
 have HHS := Lib.hid (schash_any p f HA3.out HGX.out HG2.out (by omega) (by omega) HDL.out HBY.out HZ3.out.2.2.1 (by have := HN.out; omega) HIDS.out HZ4.out.1)
 obtain ⟨he, hhe⟩ : ∃ k, hashE X c2 p f = k := ⟨_, rfl⟩
 obtain ⟨hv, hhv⟩ : ∃ k, hashV X c2 p f = k := ⟨_, rfl⟩
 obtain ⟨hn, hhn⟩ : ∃ k, n + hashN X c2 p f = k := ⟨_, rfl⟩
 obtain ⟨c4, hc4⟩ : ∃ k, hashC X c2 p f = k := ⟨_, rfl⟩
 rw [hhe, hhv, hc4] at HHS
 rw [hhn] at HHS
 have HT1 : Hid (takE X ⟨c, rows, files, n⟩ p = he) := by unfold Hid; rw [HT.out.1.2.2 rfl, hhe]
 have HT2 : Hid ((he ≠ 0 → takS X ⟨c, rows, files, n⟩ p = ⟨c4, rows, files, hn⟩) ∧ (he = 0 → takS X ⟨c, rows, files, n⟩ p = ⟨c4, rows ++ [⟨p, f.mode, hv⟩], putK files ⟨p, f.time, hv⟩, hn⟩)) := by
  refine ⟨fun h => ?_, fun h => ?_⟩
  ·rw [HT.out.2.2.1 rfl (by rw [hhe]; exact h), hhn, hc4]
  ·rw [HT.out.2.2.2 rfl (by rw [hhe]; exact h), hhn, hc4, hhv]
 clear hhe hhv hhn hc4 HT
 go_wp2_with fail
 rw [← hw3]
 try rw [← hB]
 refine HHS.out.mono ?_
 rintro e w4 ⟨rfl, ha4, hk4⟩
 have HA4 := Lib.hid ha4
 have HK4 := Lib.hid hk4
 have HB4 := Lib.hid (hk4.blk HBK.out HZ3.out.2.2.2.2 HZ3.out.2.2.2.1)
 have HKT : Hid (KeepsT w Z g bf (.slice rA rl rc) wx w4) := HK3.out.trans (hk4.keepsT HZ3.out.1)
 clear ha4 hk4 hw3 hB HHS
 by_cases h0 : he ≠ 0
 ·have e0 : (he != 0) = true := by simpa using h0
  have HE := Lib.hid (HT2.out.1 h0)
  clear h0 HT2
  go_wp2_with fail
  go_ret
  exact ⟨_, Z3, by rw [HT1.out]; rfl, by rw [HE.out]; exact HA4.out, HZ3.out.1, HZ3.out.2.1, fun _ h => .inl h, HKT.out⟩
 obtain rfl : he = 0 := by omega
 have HS4 : Hid (takS X ⟨c, rows, files, n⟩ p = ⟨c4, rows ++ [⟨p, f.mode, hv⟩], putK files ⟨p, f.time, hv⟩, hn⟩) := HT2.out.2 rfl
 clear h0 HT2
 have HRB : Hid (rl < 256) := by have := H256.out; have := HRL.out; unfold Hid; omega
 have HSZ4 : Hid (w.heap.size ≤ w4.heap.size ∧ wx.heap.size ≤ w4.heap.size) := by have h1 := HZ4.out; have h2 := Only.size HK4.out; unfold Hid; omega
 have c3 : w4.cell? ⟨g, 3, none⟩ = some (.slice rA rl rc) := HA4.out.blk.cell 3
 have cB0 : w4.cell? ⟨B, 0, none⟩ = some (.int .i64 f.mode) := HB4.out.cell 0
 go_wp2_with fail
 refine wp_region_held_drew (S := (fun W => W.cell? ⟨B, 0, none⟩ = some (.int .i64 f.mode))) (by kernel_rfl) ?_ (fun hHeld => ?_)
 ·(try dsimp only); exact cB0
 refine take_at (i := 0) (d := 39) (v := ?_) rfl (by kernel_rfl) (hy := .inl ⟨by kernel_rfl, ?_⟩) (h := ?_)
 rotate_left
 ·intro W hSw; (try dsimp only at hSw); go_simp; first | done | with_reducible rfl
 try simp only [Act.put, List.setIfInBounds_toArray, List.set_cons_zero, List.set_cons_succ]
 refine take_at (i := 1) (d := 40) (v := ?_) rfl (by kernel_rfl) (hy := .inl ⟨by kernel_rfl, ?_⟩) (h := ?_)
 rotate_left
 ·intro W hSw; (try dsimp only at hSw); go_simp; first | done | with_reducible rfl
 try simp only [Act.put, List.setIfInBounds_toArray, List.set_cons_zero, List.set_cons_succ]
 refine take_at (i := 2) (d := 41) (v := ?_) rfl (by kernel_rfl) (hy := .inl ⟨by kernel_rfl, ?_⟩) (h := ?_)
 rotate_left
 ·intro W hSw; (try dsimp only at hSw); go_simp; first | done | with_reducible rfl
 try simp only [Act.put, List.setIfInBounds_toArray, List.set_cons_zero, List.set_cons_succ]
 refine take_at (i := 3) (d := 42) (v := ?_) rfl (by kernel_rfl) (hy := .inl ⟨by kernel_rfl, ?_⟩) (h := ?_)
 rotate_left
 ·intro W hSw; (try dsimp only at hSw); go_simp; first | done | with_reducible rfl
 try simp only [Act.put, List.setIfInBounds_toArray, List.set_cons_zero, List.set_cons_succ]
 refine take_at (i := 5) (d := 44) (v := ?_) rfl (by kernel_rfl) (hy := .inl ⟨by kernel_rfl, ?_⟩) (h := ?_)
 rotate_left
 ·intro W hSw; (try dsimp only at hSw); go_simp; first | done | with_reducible rfl
 try simp only [Act.put, List.setIfInBounds_toArray, List.set_cons_zero, List.set_cons_succ]
 refine take_at (i := 6) (d := 45) (v := ?_) rfl (by kernel_rfl) (hy := .inl ⟨by kernel_rfl, ?_⟩) (h := ?_)
 rotate_left
 ·intro W hSw; (try dsimp only at hSw); go_simp; first | done | with_reducible rfl
 try simp only [Act.put, List.setIfInBounds_toArray, List.set_cons_zero, List.set_cons_succ]
 refine take_at (i := 7) (d := 46) (v := ?_) rfl (by kernel_rfl) (hy := .inl ⟨by kernel_rfl, ?_⟩) (h := ?_)
 rotate_left
 ·intro W hSw; (try dsimp only at hSw); go_simp; first | done | with_reducible rfl
 try simp only [Act.put, List.setIfInBounds_toArray, List.set_cons_zero, List.set_cons_succ]
 refine take_at (i := 8) (d := 47) (v := ?_) rfl (by kernel_rfl) (hy := .inl ⟨by kernel_rfl, ?_⟩) (h := ?_)
 rotate_left
 ·intro W hSw; (try dsimp only at hSw); go_simp; first | done | with_reducible rfl
 try simp only [Act.put, List.setIfInBounds_toArray, List.set_cons_zero, List.set_cons_succ]
 refine take_at (i := 9) (d := 48) (v := ?_) rfl (by kernel_rfl) (hy := .inl ⟨by kernel_rfl, ?_⟩) (h := ?_)
 rotate_left
 ·intro W hSw; (try dsimp only at hSw); go_simp; first | done | with_reducible rfl
 try simp only [Act.put, List.setIfInBounds_toArray, List.set_cons_zero, List.set_cons_succ]
 refine take_at (i := 10) (d := 49) (v := ?_) rfl (by kernel_rfl) (hy := .inl ⟨by kernel_rfl, ?_⟩) (h := ?_)
 rotate_left
 ·intro W hSw; (try dsimp only at hSw); go_simp; first | done | with_reducible rfl
 try simp only [Act.put, List.setIfInBounds_toArray, List.set_cons_zero, List.set_cons_succ]
 refine wpAnyH_ready (rs := [4, 11]) (by kernel_rfl) (by simp) (AllReadyH.cons rfl (fun K hK => ?_) (AllReadyH.cons rfl (fun K hK => ?_) AllReadyH.nil))
 ·go_simp
  try go_wp2_with fail
  refine hK.out _ _ ?_ (fun hHeld => ?_)
  ·(try dsimp only); exact cB0
  clear hK K
  try simp only [Act.put, List.setIfInBounds_toArray, List.set_cons_zero, List.set_cons_succ]
  refine wpAnyH_ready (rs := [11]) (by kernel_rfl) (by simp) (AllReadyH.cons rfl (fun K hK => ?_) AllReadyH.nil)
  go_simp
  have HA5 : Hid (ScA w (w4.drew.alloc (.cells #[.string (Tx.str p), .int .i64 f.mode, .string (Tx.str hv)] 120)) b s x g bf m (.slice rA rl rc) Z3 c4 X rows files hn) := (HA4.out.below ((Below.refl _ _).drew)).below ((Below.refl _ _).alloc (Nat.le_refl _) _)
  have HR5 : Hid (Blk (w4.drew.alloc (.cells #[.string (Tx.str p), .int .i64 f.mode, .string (Tx.str hv)] 120)) w4.heap.size 120 #[.string (Tx.str p), .int .i64 f.mode, .string (Tx.str hv)]) := Blk.new _ _ _
  have HB5 : Hid (Blk (w4.drew.alloc (.cells #[.string (Tx.str p), .int .i64 f.mode, .string (Tx.str hv)] 120)) B 129 #[.int .i64 f.mode, .slice dA dl dc, .int .i64 f.time]) := HB4.out.drew.alloc _
  have c35 : (w4.drew.alloc (.cells #[.string (Tx.str p), .int .i64 f.mode, .string (Tx.str hv)] 120)).cell? ⟨g, 3, none⟩ = some (.slice rA rl rc) := HA5.out.blk.cell 3
  have c35b : ((w4.alloc (.cells #[.string (Tx.str p), .int .i64 f.mode, .string (Tx.str hv)] 120)).drew).cell? ⟨g, 3, none⟩ = some (.slice rA rl rc) := c35
  try go_wp2_with fail
  refine hK.out _ _ ?_ (fun hHeld => ?_)
  ·(try dsimp only); exact HB5.out.cell 0
  clear hK K
  try simp only [Act.put, List.setIfInBounds_toArray, List.set_cons_zero, List.set_cons_succ]
  refine wpAnyH_ready (rs := [12]) (by kernel_rfl) (by simp) (AllReadyH.cons rfl (fun K hK => ?_) AllReadyH.nil)
  refine sapp_row 51 rfl rfl (.tmp 43) (.tmp 50) rfl _ w.heap.size (.slice rA rl rc) rows rfl (by exact HA5.out.rows) ⟨p, f.mode, hv⟩ w4.heap.size (by exact HR5.out) rfl (by have := HRL.out; have := HRB.out; omega) (by have := HSZ4.out; simp; omega) ?_
  intro rv6 w6 ho6 hg6 hk6
  obtain ⟨A6, c6, hv6, _, _, _, _⟩ := ho6.slR
  obtain ⟨m6, hm6⟩ : ∃ m, (rows ++ [⟨p, f.mode, hv⟩] : List RwM).length = m := ⟨_, rfl⟩
  rw [hm6] at hv6
  subst hv6
  clear hm6
  obtain ⟨ha7, hon7⟩ := HA5.out.addRow HGX.out hg6 ho6 hk6
  have HA7 := Lib.hid ha7
  have HON7 := Lib.hid hon7
  have HB6 : Hid (Blk w6 B 129 #[.int .i64 f.mode, .slice dA dl dc, .int .i64 f.time]) := Blk.grown HB5.out hg6 (HA5.out.rows.ne_blk HB5.out (by decide)).symm
  have cg6 : w6.cell? ⟨g, 3, none⟩ = some (.slice rA rl rc) := (Blk.grown HA5.out.blk hg6 (HA5.out.rows.ne_blk HA5.out.blk (by decide)).symm).cell 3
  have fg6 : w6.frozen? ⟨g, 3, none⟩ = false := (Blk.grown HA5.out.blk hg6 (HA5.out.rows.ne_blk HA5.out.blk (by decide)).symm).frozen 3
  have HO6 := Lib.hid ho6
  have HK6 := Lib.hid hk6
  have HG6 := Lib.hid hg6
  clear ha7 hon7 ho6 hg6 hk6
  try go_wp2_with fail
  refine hK.out _ _ ?_ (fun hHeld => ?_)
  ·(try dsimp only); exact HB6.out.cell 0
  clear hK K
  try simp only [Act.put, List.setIfInBounds_toArray, List.set_cons_zero, List.set_cons_succ]
  refine take_at (i := 13) (d := 52) (v := ?_) rfl (by kernel_rfl) (hy := .inl ⟨by kernel_rfl, ?_⟩) (h := ?_)
  rotate_left
  ·intro W hSw; (try dsimp only at hSw); go_simp; first | done | with_reducible rfl
  try simp only [Act.put, List.setIfInBounds_toArray, List.set_cons_zero, List.set_cons_succ]
  refine take_at (i := 14) (d := 53) (v := ?_) rfl (by kernel_rfl) (hy := .inl ⟨by kernel_rfl, ?_⟩) (h := ?_)
  rotate_left
  ·intro W hSw; (try dsimp only at hSw); go_simp; first | done | with_reducible rfl
  try simp only [Act.put, List.setIfInBounds_toArray, List.set_cons_zero, List.set_cons_succ]
  refine wpAnyH_ready (rs := [15]) (by kernel_rfl) (by simp) (AllReadyH.cons rfl (fun K hK => ?_) AllReadyH.nil)
  go_simp
  obtain ⟨w7, hw7⟩ : ∃ W, W = w6.setCell ⟨g, 3, none⟩ (.slice A6 m6 c6) := ⟨_, rfl⟩
  have HB7 : Hid (Blk w7 B 129 #[.int .i64 f.mode, .slice dA dl dc, .int .i64 f.time]) := by rw [hw7]; exact Only.blk ((Only.refl (fun k => k = g) w6).set_ (.inl rfl) _) HB6.out HZ3.out.2.2.2.2
  rw [← hw7] at HA7 HON7
  rw [← hw7]
  clear hw7 cg6 fg6
  try go_wp2_with fail
  refine hK.out _ _ ?_ (fun hHeld => ?_)
  ·(try dsimp only); exact HB7.out.cell 0
  clear hK K
  refine wpAnyH_done (by kernel_rfl) ?_ _
  obtain ⟨D9, fo9, fk9⟩ := HA7.out.fil
  have HF9 : Hid (w7.drew.ownsMap Tryz.prog 9 Tx.hv bf (Maps.size D9) D9 ∧ KnOK files D9 ∧ Maps.size D9 < maxLen) := ⟨own_only fo9 (Only.of_below (M := fun _ => False) ((Below.refl _ _).drew)) id, fk9, by have h1 := fk9.size fo9; have h2 := HFL.out; unfold maxLen; omega⟩
  have cg4 : w7.cell? ⟨g, 4, none⟩ = some (.map (some bf)) := HA7.out.blk.cell 4
  have cB2 : w7.cell? ⟨B, 2, none⟩ = some (.int .i64 f.time) := HB7.out.cell 2
  clear fo9 fk9 cB0 c3
  go_wp2_with fail
  refine wp_region_held_drew (S := (fun W => W.cell? ⟨g, 4, none⟩ = some (.map (some bf)) ∧ W.cell? ⟨B, 2, none⟩ = some (.int .i64 f.time))) (by kernel_rfl) ?_ (fun hHeld => ?_)
  ·(try dsimp only); exact ⟨cg4, cB2⟩
  refine take_at (i := 0) (d := 54) (v := ?_) rfl (by kernel_rfl) (hy := .inl ⟨by kernel_rfl, ?_⟩) (h := ?_)
  rotate_left
  ·intro W hSw; (try dsimp only at hSw); go_simp; first | done | with_reducible rfl
  try simp only [Act.put, List.setIfInBounds_toArray, List.set_cons_zero, List.set_cons_succ]
  refine take_at (i := 1) (d := 55) (v := ?_) rfl (by kernel_rfl) (hy := .inl ⟨by kernel_rfl, ?_⟩) (h := ?_)
  rotate_left
  ·intro W hSw; (try dsimp only at hSw); go_simp; first | done | with_reducible rfl
  try simp only [Act.put, List.setIfInBounds_toArray, List.set_cons_zero, List.set_cons_succ]
  refine take_at (i := 2) (d := 56) (v := ?_) rfl (by kernel_rfl) (hy := .inl ⟨by kernel_rfl, ?_⟩) (h := ?_)
  rotate_left
  ·intro W hSw; (try dsimp only at hSw); go_simp; first | done | with_reducible rfl
  try simp only [Act.put, List.setIfInBounds_toArray, List.set_cons_zero, List.set_cons_succ]
  refine take_at (i := 3) (d := 57) (v := ?_) rfl (by kernel_rfl) (hy := .inl ⟨by kernel_rfl, ?_⟩) (h := ?_)
  rotate_left
  ·intro W hSw; (try dsimp only at hSw); go_simp; first | done | with_reducible rfl
  try simp only [Act.put, List.setIfInBounds_toArray, List.set_cons_zero, List.set_cons_succ]
  refine take_at (i := 4) (d := 58) (v := ?_) rfl (by kernel_rfl) (hy := .inl ⟨by kernel_rfl, ?_⟩) (h := ?_)
  rotate_left
  ·intro W hSw; (try dsimp only at hSw); go_simp; first | done | with_reducible rfl
  try simp only [Act.put, List.setIfInBounds_toArray, List.set_cons_zero, List.set_cons_succ]
  refine take_at (i := 5) (d := 59) (v := ?_) rfl (by kernel_rfl) (hy := .inl ⟨by kernel_rfl, ?_⟩) (h := ?_)
  rotate_left
  ·intro W hSw; (try dsimp only at hSw); go_simp; first | done | with_reducible rfl
  try simp only [Act.put, List.setIfInBounds_toArray, List.set_cons_zero, List.set_cons_succ]
  refine take_at (i := 6) (d := 60) (v := ?_) rfl (by kernel_rfl) (hy := .inl ⟨by kernel_rfl, ?_⟩) (h := ?_)
  rotate_left
  ·intro W hSw; (try dsimp only at hSw); go_simp; first | done | with_reducible rfl
  try simp only [Act.put, List.setIfInBounds_toArray, List.set_cons_zero, List.set_cons_succ]
  refine take_at (i := 7) (d := 61) (v := ?_) rfl (by kernel_rfl) (hy := .inl ⟨by kernel_rfl, ?_⟩) (h := ?_)
  rotate_left
  ·intro W hSw; (try dsimp only at hSw); go_simp; first | done | with_reducible rfl
  try simp only [Act.put, List.setIfInBounds_toArray, List.set_cons_zero, List.set_cons_succ]
  refine take_at (i := 8) (d := 62) (v := ?_) rfl (by kernel_rfl) (hy := .inl ⟨by kernel_rfl, ?_⟩) (h := ?_)
  rotate_left
  ·intro W hSw; (try dsimp only at hSw); go_simp; first | done | with_reducible rfl
  try simp only [Act.put, List.setIfInBounds_toArray, List.set_cons_zero, List.set_cons_succ]
  refine wpAnyH_ready (rs := [9]) (by kernel_rfl) (by simp) (AllReadyH.cons rfl (fun K hK => ?_) AllReadyH.nil)
  refine step_mapUpdate_own _ rfl (.tmp 57) (.tmp 58) (.tmp 62) 100 rfl 9 125 lawS Tryz.underlying100 Tx.hv bf _ D9 rfl (by exact HF9.out.1) (by exact HF9.out.2.2) (.string (Tx.str p)) (.agg #[.int .i64 f.time, .string (Tx.str hv)]) (.string p) rfl rfl (key_str p (by omega)) (.held (.agg #[.int .i64 f.time, .string (Tx.str hv)])) [] rfl ?_
  intro w8 ho8 hg8
  obtain ⟨ha8, hon8⟩ := (HA7.out.below ((Below.refl _ _).drew)).addFile (k0 := ⟨p, f.time, hv⟩) HMB.out HF9.out.2.1 (own_map HF9.out.1) ho8 hg8
  have HA8 := Lib.hid ha8
  have HON8 := Lib.hid hon8
  have HB8 := Lib.hid (Only.blk hon8 (HB7.out.below ((Below.refl _ _).drew) HB7.out.lt) (fun e => own_cells HF9.out.1 HB7.out e.symm))
  clear ho8 hg8 ha8 hon8
  try go_wp2_with fail
  refine hK.out _ _ ?_ (fun hHeld => ?_)
  ·(try dsimp only); exact ⟨HA8.out.blk.cell 4, HB8.out.cell 2⟩
  clear hK K
  refine wpAnyH_done (by kernel_rfl) ?_ _
  go_wp2_with fail
  go_ret
  refine ⟨.slice A6 m6 c6, fun k => Z3 k ∨ (Value.slice A6 m6 c6).ownBlock = some k, by rw [HT1.out]; rfl, by rw [HS4.out]; exact HA8.out, fun k hk => .inl (HZ3.out.1 k hk), fun k hk => ?_, fun k hk => ?_, ?_⟩
  ·rcases hk with hk | hk
   ·exact HZ3.out.2.1 k hk
   ·rcases HK6.out with h1 | h1
    ·exact .inl (H0.out.zr k (h1 ▸ hk))
    ·rw [h1] at hk
     injection hk with hk
     have := HSZ4.out
     simp at hk
     exact .inr (by omega)
  ·rcases HK6.out with h1 | h1
   ·exact .inl (h1 ▸ hk)
   ·rw [h1] at hk
    injection hk with hk
    have := HSZ4.out
    simp at hk
    exact .inr (by omega)
  ·have k5 : KeepsT w Z g bf (.slice rA rl rc) w4 (w4.drew.alloc (.cells #[.string (Tx.str p), .int .i64 f.mode, .string (Tx.str hv)] 120)) := ((Only.refl _ w4).drew).alloc _
   have k7 : KeepsT w Z g bf (.slice rA rl rc) (w4.drew.alloc (.cells #[.string (Tx.str p), .int .i64 f.mode, .string (Tx.str hv)] 120)) w7 := Only.more HON7.out (fun k _ hk => hk.imp id (fun hk => .inr (.inl hk)))
   have k8 : KeepsT w Z g bf (.slice rA rl rc) w7 w8 := ((Only.refl _ w7).drew).trans (Only.more HON8.out (fun k _ hk => .inr (.inl hk))) (fun k hk => .inl hk)
   exact HKT.out.trans (k5.trans (k7.trans k8))
 ·go_simp
  have HA5 : Hid (ScA w (w4.drew.alloc (.cells #[.string (Tx.str p), .int .i64 f.mode, .string (Tx.str hv)] 120)) b s x g bf m (.slice rA rl rc) Z3 c4 X rows files hn) := (HA4.out.below ((Below.refl _ _).drew)).below ((Below.refl _ _).alloc (Nat.le_refl _) _)
  have HR5 : Hid (Blk (w4.drew.alloc (.cells #[.string (Tx.str p), .int .i64 f.mode, .string (Tx.str hv)] 120)) w4.heap.size 120 #[.string (Tx.str p), .int .i64 f.mode, .string (Tx.str hv)]) := Blk.new _ _ _
  have HB5 : Hid (Blk (w4.drew.alloc (.cells #[.string (Tx.str p), .int .i64 f.mode, .string (Tx.str hv)] 120)) B 129 #[.int .i64 f.mode, .slice dA dl dc, .int .i64 f.time]) := HB4.out.drew.alloc _
  have c35 : (w4.drew.alloc (.cells #[.string (Tx.str p), .int .i64 f.mode, .string (Tx.str hv)] 120)).cell? ⟨g, 3, none⟩ = some (.slice rA rl rc) := HA5.out.blk.cell 3
  have c35b : ((w4.alloc (.cells #[.string (Tx.str p), .int .i64 f.mode, .string (Tx.str hv)] 120)).drew).cell? ⟨g, 3, none⟩ = some (.slice rA rl rc) := c35
  try go_wp2_with fail
  refine hK.out _ _ ?_ (fun hHeld => ?_)
  ·(try dsimp only); exact HB5.out.cell 0
  clear hK K
  try simp only [Act.put, List.setIfInBounds_toArray, List.set_cons_zero, List.set_cons_succ]
  refine wpAnyH_ready (rs := [4]) (by kernel_rfl) (by simp) (AllReadyH.cons rfl (fun K hK => ?_) AllReadyH.nil)
  go_simp
  try go_wp2_with fail
  refine hK.out _ _ ?_ (fun hHeld => ?_)
  ·(try dsimp only); exact HB5.out.cell 0
  clear hK K
  try simp only [Act.put, List.setIfInBounds_toArray, List.set_cons_zero, List.set_cons_succ]
  refine wpAnyH_ready (rs := [12]) (by kernel_rfl) (by simp) (AllReadyH.cons rfl (fun K hK => ?_) AllReadyH.nil)
  refine sapp_row 51 rfl rfl (.tmp 43) (.tmp 50) rfl _ w.heap.size (.slice rA rl rc) rows rfl (by exact HA5.out.rows) ⟨p, f.mode, hv⟩ w4.heap.size (by exact HR5.out) rfl (by have := HRL.out; have := HRB.out; omega) (by have := HSZ4.out; simp; omega) ?_
  intro rv6 w6 ho6 hg6 hk6
  obtain ⟨A6, c6, hv6, _, _, _, _⟩ := ho6.slR
  obtain ⟨m6, hm6⟩ : ∃ m, (rows ++ [⟨p, f.mode, hv⟩] : List RwM).length = m := ⟨_, rfl⟩
  rw [hm6] at hv6
  subst hv6
  clear hm6
  obtain ⟨ha7, hon7⟩ := HA5.out.addRow HGX.out hg6 ho6 hk6
  have HA7 := Lib.hid ha7
  have HON7 := Lib.hid hon7
  have HB6 : Hid (Blk w6 B 129 #[.int .i64 f.mode, .slice dA dl dc, .int .i64 f.time]) := Blk.grown HB5.out hg6 (HA5.out.rows.ne_blk HB5.out (by decide)).symm
  have cg6 : w6.cell? ⟨g, 3, none⟩ = some (.slice rA rl rc) := (Blk.grown HA5.out.blk hg6 (HA5.out.rows.ne_blk HA5.out.blk (by decide)).symm).cell 3
  have fg6 : w6.frozen? ⟨g, 3, none⟩ = false := (Blk.grown HA5.out.blk hg6 (HA5.out.rows.ne_blk HA5.out.blk (by decide)).symm).frozen 3
  have HO6 := Lib.hid ho6
  have HK6 := Lib.hid hk6
  have HG6 := Lib.hid hg6
  clear ha7 hon7 ho6 hg6 hk6
  try go_wp2_with fail
  refine hK.out _ _ ?_ (fun hHeld => ?_)
  ·(try dsimp only); exact HB6.out.cell 0
  clear hK K
  try simp only [Act.put, List.setIfInBounds_toArray, List.set_cons_zero, List.set_cons_succ]
  refine take_at (i := 13) (d := 52) (v := ?_) rfl (by kernel_rfl) (hy := .inl ⟨by kernel_rfl, ?_⟩) (h := ?_)
  rotate_left
  ·intro W hSw; (try dsimp only at hSw); go_simp; first | done | with_reducible rfl
  try simp only [Act.put, List.setIfInBounds_toArray, List.set_cons_zero, List.set_cons_succ]
  refine take_at (i := 14) (d := 53) (v := ?_) rfl (by kernel_rfl) (hy := .inl ⟨by kernel_rfl, ?_⟩) (h := ?_)
  rotate_left
  ·intro W hSw; (try dsimp only at hSw); go_simp; first | done | with_reducible rfl
  try simp only [Act.put, List.setIfInBounds_toArray, List.set_cons_zero, List.set_cons_succ]
  refine wpAnyH_ready (rs := [15]) (by kernel_rfl) (by simp) (AllReadyH.cons rfl (fun K hK => ?_) AllReadyH.nil)
  go_simp
  obtain ⟨w7, hw7⟩ : ∃ W, W = w6.setCell ⟨g, 3, none⟩ (.slice A6 m6 c6) := ⟨_, rfl⟩
  have HB7 : Hid (Blk w7 B 129 #[.int .i64 f.mode, .slice dA dl dc, .int .i64 f.time]) := by rw [hw7]; exact Only.blk ((Only.refl (fun k => k = g) w6).set_ (.inl rfl) _) HB6.out HZ3.out.2.2.2.2
  rw [← hw7] at HA7 HON7
  rw [← hw7]
  clear hw7 cg6 fg6
  try go_wp2_with fail
  refine hK.out _ _ ?_ (fun hHeld => ?_)
  ·(try dsimp only); exact HB7.out.cell 0
  clear hK K
  refine wpAnyH_done (by kernel_rfl) ?_ _
  obtain ⟨D9, fo9, fk9⟩ := HA7.out.fil
  have HF9 : Hid (w7.drew.ownsMap Tryz.prog 9 Tx.hv bf (Maps.size D9) D9 ∧ KnOK files D9 ∧ Maps.size D9 < maxLen) := ⟨own_only fo9 (Only.of_below (M := fun _ => False) ((Below.refl _ _).drew)) id, fk9, by have h1 := fk9.size fo9; have h2 := HFL.out; unfold maxLen; omega⟩
  have cg4 : w7.cell? ⟨g, 4, none⟩ = some (.map (some bf)) := HA7.out.blk.cell 4
  have cB2 : w7.cell? ⟨B, 2, none⟩ = some (.int .i64 f.time) := HB7.out.cell 2
  clear fo9 fk9 cB0 c3
  go_wp2_with fail
  refine wp_region_held_drew (S := (fun W => W.cell? ⟨g, 4, none⟩ = some (.map (some bf)) ∧ W.cell? ⟨B, 2, none⟩ = some (.int .i64 f.time))) (by kernel_rfl) ?_ (fun hHeld => ?_)
  ·(try dsimp only); exact ⟨cg4, cB2⟩
  refine take_at (i := 0) (d := 54) (v := ?_) rfl (by kernel_rfl) (hy := .inl ⟨by kernel_rfl, ?_⟩) (h := ?_)
  rotate_left
  ·intro W hSw; (try dsimp only at hSw); go_simp; first | done | with_reducible rfl
  try simp only [Act.put, List.setIfInBounds_toArray, List.set_cons_zero, List.set_cons_succ]
  refine take_at (i := 1) (d := 55) (v := ?_) rfl (by kernel_rfl) (hy := .inl ⟨by kernel_rfl, ?_⟩) (h := ?_)
  rotate_left
  ·intro W hSw; (try dsimp only at hSw); go_simp; first | done | with_reducible rfl
  try simp only [Act.put, List.setIfInBounds_toArray, List.set_cons_zero, List.set_cons_succ]
  refine take_at (i := 2) (d := 56) (v := ?_) rfl (by kernel_rfl) (hy := .inl ⟨by kernel_rfl, ?_⟩) (h := ?_)
  rotate_left
  ·intro W hSw; (try dsimp only at hSw); go_simp; first | done | with_reducible rfl
  try simp only [Act.put, List.setIfInBounds_toArray, List.set_cons_zero, List.set_cons_succ]
  refine take_at (i := 3) (d := 57) (v := ?_) rfl (by kernel_rfl) (hy := .inl ⟨by kernel_rfl, ?_⟩) (h := ?_)
  rotate_left
  ·intro W hSw; (try dsimp only at hSw); go_simp; first | done | with_reducible rfl
  try simp only [Act.put, List.setIfInBounds_toArray, List.set_cons_zero, List.set_cons_succ]
  refine take_at (i := 4) (d := 58) (v := ?_) rfl (by kernel_rfl) (hy := .inl ⟨by kernel_rfl, ?_⟩) (h := ?_)
  rotate_left
  ·intro W hSw; (try dsimp only at hSw); go_simp; first | done | with_reducible rfl
  try simp only [Act.put, List.setIfInBounds_toArray, List.set_cons_zero, List.set_cons_succ]
  refine take_at (i := 5) (d := 59) (v := ?_) rfl (by kernel_rfl) (hy := .inl ⟨by kernel_rfl, ?_⟩) (h := ?_)
  rotate_left
  ·intro W hSw; (try dsimp only at hSw); go_simp; first | done | with_reducible rfl
  try simp only [Act.put, List.setIfInBounds_toArray, List.set_cons_zero, List.set_cons_succ]
  refine take_at (i := 6) (d := 60) (v := ?_) rfl (by kernel_rfl) (hy := .inl ⟨by kernel_rfl, ?_⟩) (h := ?_)
  rotate_left
  ·intro W hSw; (try dsimp only at hSw); go_simp; first | done | with_reducible rfl
  try simp only [Act.put, List.setIfInBounds_toArray, List.set_cons_zero, List.set_cons_succ]
  refine take_at (i := 7) (d := 61) (v := ?_) rfl (by kernel_rfl) (hy := .inl ⟨by kernel_rfl, ?_⟩) (h := ?_)
  rotate_left
  ·intro W hSw; (try dsimp only at hSw); go_simp; first | done | with_reducible rfl
  try simp only [Act.put, List.setIfInBounds_toArray, List.set_cons_zero, List.set_cons_succ]
  refine take_at (i := 8) (d := 62) (v := ?_) rfl (by kernel_rfl) (hy := .inl ⟨by kernel_rfl, ?_⟩) (h := ?_)
  rotate_left
  ·intro W hSw; (try dsimp only at hSw); go_simp; first | done | with_reducible rfl
  try simp only [Act.put, List.setIfInBounds_toArray, List.set_cons_zero, List.set_cons_succ]
  refine wpAnyH_ready (rs := [9]) (by kernel_rfl) (by simp) (AllReadyH.cons rfl (fun K hK => ?_) AllReadyH.nil)
  refine step_mapUpdate_own _ rfl (.tmp 57) (.tmp 58) (.tmp 62) 100 rfl 9 125 lawS Tryz.underlying100 Tx.hv bf _ D9 rfl (by exact HF9.out.1) (by exact HF9.out.2.2) (.string (Tx.str p)) (.agg #[.int .i64 f.time, .string (Tx.str hv)]) (.string p) rfl rfl (key_str p (by omega)) (.held (.agg #[.int .i64 f.time, .string (Tx.str hv)])) [] rfl ?_
  intro w8 ho8 hg8
  obtain ⟨ha8, hon8⟩ := (HA7.out.below ((Below.refl _ _).drew)).addFile (k0 := ⟨p, f.time, hv⟩) HMB.out HF9.out.2.1 (own_map HF9.out.1) ho8 hg8
  have HA8 := Lib.hid ha8
  have HON8 := Lib.hid hon8
  have HB8 := Lib.hid (Only.blk hon8 (HB7.out.below ((Below.refl _ _).drew) HB7.out.lt) (fun e => own_cells HF9.out.1 HB7.out e.symm))
  clear ho8 hg8 ha8 hon8
  try go_wp2_with fail
  refine hK.out _ _ ?_ (fun hHeld => ?_)
  ·(try dsimp only); exact ⟨HA8.out.blk.cell 4, HB8.out.cell 2⟩
  clear hK K
  refine wpAnyH_done (by kernel_rfl) ?_ _
  go_wp2_with fail
  go_ret
  refine ⟨.slice A6 m6 c6, fun k => Z3 k ∨ (Value.slice A6 m6 c6).ownBlock = some k, by rw [HT1.out]; rfl, by rw [HS4.out]; exact HA8.out, fun k hk => .inl (HZ3.out.1 k hk), fun k hk => ?_, fun k hk => ?_, ?_⟩
  ·rcases hk with hk | hk
   ·exact HZ3.out.2.1 k hk
   ·rcases HK6.out with h1 | h1
    ·exact .inl (H0.out.zr k (h1 ▸ hk))
    ·rw [h1] at hk
     injection hk with hk
     have := HSZ4.out
     simp at hk
     exact .inr (by omega)
  ·rcases HK6.out with h1 | h1
   ·exact .inl (h1 ▸ hk)
   ·rw [h1] at hk
    injection hk with hk
    have := HSZ4.out
    simp at hk
    exact .inr (by omega)
  ·have k5 : KeepsT w Z g bf (.slice rA rl rc) w4 (w4.drew.alloc (.cells #[.string (Tx.str p), .int .i64 f.mode, .string (Tx.str hv)] 120)) := ((Only.refl _ w4).drew).alloc _
   have k7 : KeepsT w Z g bf (.slice rA rl rc) (w4.drew.alloc (.cells #[.string (Tx.str p), .int .i64 f.mode, .string (Tx.str hv)] 120)) w7 := Only.more HON7.out (fun k _ hk => hk.imp id (fun hk => .inr (.inl hk)))
   have k8 : KeepsT w Z g bf (.slice rA rl rc) w7 w8 := ((Only.refl _ w7).drew).trans (Only.more HON8.out (fun k _ hk => .inr (.inl hk))) (fun k hk => .inl hk)
   exact HKT.out.trans (k5.trans (k7.trans k8))
end Go.Proofs.YtbenkmihkbjgeaaGreat.Tx
