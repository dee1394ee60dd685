/- Texts put together: USc10. -/
import Derived.Test.YtbenkmihkbjgeaaGreatQu44
/- Package scan: users, NewIndex, marlaw13.first. -/
set_option linter.unusedVariables false
set_option linter.unusedSimpArgs false
namespace Go.Proofs.YtbenkmihkbjgeaaGreat.Tx
open Go.RowKit Go.Maps Go.Proofs.YtbenkmihkbjgeaaGreat.Sh
theorem GoS.uw {c : CSt} {i : Nat} (h : GoS c i) (p : List UInt8) (mode : Int) (data : List UInt8) : GoS (uwC c p mode data) (i + 2) := by
 obtain ⟨N, h1, h2⟩ := h.fits
 obtain ⟨e1, e2, _⟩ := uw_plan c p mode data
 exact ⟨⟨N + 2, h1.uw p mode data, by rw [e1]; omega⟩, by rw [e2]; have := h.calls; constructor <;> omega, by rw [e1]; exact h.plan, by rw [e1]; exact h.paths⟩
theorem GoS.scn {c : CSt} {i : Nat} (h : GoS c i) (X : IxM) (ig : List (List UInt8)) : GoS (scnC X c ig) (i + 1 + 5 * (lisO c wD).length) := by
 have h1 : GoS (scn0 c).c (i + 1) := h.bg
 unfold scnC scnS
 split
 ·exact (all_bounds (X := X) (l := namesS ig (lisO c wD)) h1).1.upto (by have := names_len (ig := ig) (L := lisO c wD); omega)
 ·exact h1.upto (by omega)
section
variable {w w1 : World} {b s i : Nat} {c : CSt} {Z : Nat → Prop}
theorem uws_any {G : Nat → Prop} {dv : Value} {d : List UInt8} (p : List UInt8) (mode : Int) (h : StAt w w1 b c s Z) (hg : GoS c i) (hi : i ≤ 390000) (hp : p.length ≤ 900000) (hd : By G w1 dv d) (hG : ∀ k, G k → k < w.heap.size ∨ Z k) :
  Calls Tryz.prog 23 #[.pointer (some ⟨b, 0, none⟩), .string (Tx.str p), .int .i64 mode, dv] w1 fun e w' => e = .returned (.int .i64 (uwE c p mode d)) ∧ StAt w w' b (uwC c p mode d) s Z ∧ Keeps w (fun k => Z k ∨ k = s) w1 w' := by
 have H := Lib.hid h
 obtain ⟨⟨F, M, h1, h2, h3, h4⟩, _⟩ := h
 obtain ⟨N, f1, f2⟩ := hg.fits
 refine (userw_any F M b c N p mode dv d G w1 h1 f1 (by omega) hd (fun k hk hm => ?_) (by omega)).mono ?_
 ·rcases hG k hk with h5 | h5
  ·have := h2 k hm; omega
  ·exact (h4 k (.inl h5)).2.1 hm
 ·rintro e w' ⟨rfl, hq⟩
  have hm := MineP.of' h2 h3 h4 hq
  exact ⟨rfl, H.out.step hm.1 hm.2, hm.2⟩
end
theorem newix_any (w : World) : Calls Tryz.prog 13 #[] w fun e w' => e = .returned (.pointer (some ⟨w.heap.size, 0, none⟩)) ∧ w.alloc (.cells #[.map none, .int .i64 0] 102) = w' := by
 go_enter Tryz.func13, Tryz.ntmps13
 go_wp2_with fail
 go_ret
 exact ⟨rfl, rfl⟩
theorem IxAt.new (w : World) : IxAt (w.alloc (.cells #[.map none, .int .i64 0] 102)) w.heap.size ⟨[], 0⟩ none :=
 ⟨heap_alloc_new w _, fun _ => rfl, fun b hb => by cases hb⟩
theorem keepIx {w w1 w2 : World} {x : Nat} {Z : Nat → Prop} {X : IxM} {m : Option Nat} (hX : IxAt w1 x X m) (hz : Z x ∧ ∀ k, m = some k → Z k) (hk : Keeps w Z w1 w2) : IxAt w2 x X m :=
 hX.only hk (fun hn => hn.1 hz.1) (fun k h hn => hn.1 (hz.2 k h))
def sf0 : CSt := newC 10000
def sf1 : CSt := sptC sf0 (blobL [113])
def sf2 : CSt := uwC sf1 [119, 47, 97] 1 [113]
def sx0 : IxM := ⟨[], 0⟩
def sf3 : CSt := scnC sx0 sf2 []
def sx1 : IxM := scnX sx0 sf2 []
def sf4 : CSt := scnC sx1 sf3 []
def sx2 : IxM := scnX sx1 sf3 []
def sf5 : CSt := uwC sf4 [118] 1 []
def sf6 : CSt := scnC sx2 sf5 []
def sx3 : IxM := scnX sx2 sf5 []
section
set_option maxRecDepth 100000
theorem sft3 : scnE sx0 sf2 [] = 0 ∧ scnN sx0 sf2 [] = 1 := by decide +kernel
theorem sft4 : scnE sx1 sf3 [] = 0 ∧ scnN sx1 sf3 [] = 1 := by decide +kernel
theorem sft5 : scnE sx2 sf5 [] = 0 ∧ scnN sx2 sf5 [] = 1 := by decide +kernel
theorem sft6 : scnE sx3 sf6 [] = 0 ∧ scnN sx3 sf6 [] = 0 := by decide +kernel
theorem sft7 : (lisO sf2 wD).length ≤ 1 ∧ (lisO sf3 wD).length ≤ 1 ∧ (lisO sf5 wD).length ≤ 1 ∧ (lisO sf6 wD).length ≤ 1 := by decide +kernel
theorem sft8 : (∀ k ∈ sx1.files, k.id.length ≤ 800000) ∧ (∀ k ∈ sx2.files, k.id.length ≤ 800000) ∧ (∀ k ∈ sx3.files, k.id.length ≤ 800000) := by decide +kernel
end
theorem sfg : GoS sf1 3 ∧ GoS sf2 5 ∧ GoS sf3 11 ∧ GoS sf4 17 ∧ GoS sf5 19 ∧ GoS sf6 25 := by
 have g1 : GoS sf1 3 := (GoS.new_ 10000).put _
 have g2 : GoS sf2 5 := g1.uw _ _ _
 have g3 : GoS sf3 11 := (g2.scn sx0 []).upto (by have := sft7.1; omega)
 have g4 : GoS sf4 17 := (g3.scn sx1 []).upto (by have := sft7.2.1; omega)
 have g5 : GoS sf5 19 := g4.uw _ _ _
 exact ⟨g1, g2, g3, g4, g5, (g5.scn sx2 []).upto (by have := sft7.2.2.1; omega)⟩
def Bench (w w1 : World) (b s x : Nat) (c : CSt) (X : IxM) : Prop := ∃ Z m, StAt w w1 b c s Z ∧ IxAt w1 x X m ∧ (Z x ∧ ∀ k, m = some k → Z k) ∧ w.heap.size ≤ x
section
variable {w w1 w2 : World} {b s x i : Nat} {c : CSt} {X : IxM}
theorem Bench.scan {vI : Value} (ig : List (List UInt8)) (h : Bench w w1 b s x c X) (hg : GoS c i) (hi : i + 5 * (lisO c wD).length ≤ 300000) (hll : (lisO c wD).length ≤ 60000) (hI : SlV w vI ((ig.map Tx.str).map sv)) (hIn : ig.length ≤ 1000) (hIz : ∀ p ∈ ig, p.length ≤ 1000) (hids : ∀ k ∈ X.files, k.id.length ≤ 800000) :
  Calls Tryz.prog 14 #[.pointer (some ⟨b, 0, none⟩), .pointer (some ⟨s, 0, none⟩), .pointer (some ⟨x, 0, none⟩), vI] w1 fun e w' => ∃ rv, e = .returned (.tuple #[rv, .int .i64 (scnN X c ig : Int), .int .i64 (scnE X c ig)]) ∧ Bench w w' b s x (scnC X c ig) (scnX X c ig) := by
 obtain ⟨Z, m, h1, h2, h3, h4⟩ := h
 refine (scan_any ig h1 h2 h3 h4 hg hi hll hI hIn hIz hids).mono ?_
 rintro e w' ⟨rv, m', Z', rfl, _, g2, g3, g4, g5, _⟩
 exact ⟨rv, rfl, Z', m', g2, g3, ⟨g5 x h3.1, g4⟩, h4⟩
theorem Bench.bel (h : Bench w w1 b s x c X) : Below w.heap.size w w1 := by
 obtain ⟨Z, m, h1, _⟩ := h
 exact h1.bel
theorem Bench.user {G : Nat → Prop} {dv : Value} {d : List UInt8} (p : List UInt8) (mode : Int) (h : Bench w w1 b s x c X) (hg : GoS c i) (hi : i ≤ 390000) (hp : p.length ≤ 900000) (hd : By G w1 dv d) (hG : ∀ k, G k → k < w.heap.size) :
  Calls Tryz.prog 23 #[.pointer (some ⟨b, 0, none⟩), .string (Tx.str p), .int .i64 mode, dv] w1 fun e w' => e = .returned (.int .i64 (uwE c p mode d)) ∧ Bench w w' b s x (uwC c p mode d) X := by
 obtain ⟨Z, m, h1, h2, h3, h4⟩ := h
 refine (uws_any p mode h1 hg hi hp hd (fun k hk => .inl (hG k hk))).mono ?_
 rintro e w' ⟨rfl, g1, g2⟩
 exact ⟨rfl, Z, m, g1, keepIx h2 h3 (g2.fewer (fun k h => .inl h)), h3, h4⟩
end
set_option maxRecDepth 100000 in
set_option maxHeartbeats 6400000 in
theorem xfirst_any (w : World) : Calls Tryz.prog 7 #[] w (Yes w) := by
 have kc := fun (w : World) (C : Array Value) (n c : Nat) => Lib.run_convert_bytes_const (P := Tryz.prog) w 45 5 C n c Tryz.underlying45 Tryz.underlying5
 have HG := Lib.hid sfg
 have H3 := Lib.hid sft3
 have H4 := Lib.hid sft4
 have H5 := Lib.hid sft5
 have H6 := Lib.hid sft6
 have H7 := Lib.hid sft7
 have H8 := Lib.hid sft8
 have HS0 : Hid (SlV w (.slice none 0 0) ((([] : List (List UInt8)).map Tx.str).map sv)) := SlV.nil_ w
 go_enter Tryz.func7, Tryz.ntmps7
 go_wp2_with fail
 refine (new_any (fun _ => False) 10000 w (fun _ h => h.elim)).mono ?_
 rintro e w1 ⟨hb1, ⟨h1, _⟩ | ⟨_, b, M, _, hM, rfl, hat⟩⟩
 ·exact absurd h1 (by decide)
 have hmi : Mine w w1 b sf0 := ⟨_, M, hat, hM, hb1⟩
 have H1 := Lib.hid (MineP.start hmi)
 clear hb1 hM hat hmi
 go_wp2_with fail
 refine (open_any H1.out).mono ?_
 rintro e w2 ⟨s, rfl, hs2, _⟩
 have HS2 := Lib.hid hs2
 clear hs2
 go_wp2_with fail
 refine (newix_any w2).mono ?_
 rintro e w3 ⟨rfl, hw3⟩
 have HS3 : Hid (StAt w w3 b sf0 s (fun k => False ∨ k = w2.heap.size)) := by rw [← hw3]; exact HS2.out.add _
 have HX3 : Hid (IxAt w3 w2.heap.size sx0 none) := by rw [← hw3]; exact IxAt.new w2
 have HXL : Hid (w.heap.size ≤ w2.heap.size) := HS2.out.bel.size
 obtain ⟨x, hx⟩ : ∃ k, k = w2.heap.size := ⟨_, rfl⟩
 rw [← hx] at HS3 HX3 HXL ⊢
 clear hw3 hx
 go_wp2_with fail
 have hs4 := HS3.out.add (.cells #[.int .u8 113] 5 (1, 2))
 refine (sblobq_any _ [113] hs4 (GoS.new_ 10000) (by omega) (sl_of (by_new w3 [113] #[.int .u8 113] _ _ (by simp [bv, bi]) 1 rfl (by omega)).slv) (by simp)).mono ?_
 rintro e w4 ⟨rfl, hs5, hk5⟩
 have HS4 : Hid (StAt w w4 b sf1 s _) := hs5
 have HX4 := Lib.hid (keepIx (w := w) (Z := fun k => (False ∨ k = x) ∨ k = w3.heap.size) (HX3.out.below ((Below.refl _ _).alloc (Nat.le_refl _) (.cells #[.int .u8 113] 5 (1, 2)))) ⟨.inl (.inr rfl), fun k hk => by cases hk⟩ hk5)
 clear hs4 hs5 hk5
 go_wp2_with fail
 have hs5 := HS4.out.add (.cells #[.int .u8 113] 5 (1, 2))
 refine (uws_any [119, 47, 97] 1 hs5 HG.out.1 (by omega) (by simp) (by_new w4 [113] #[.int .u8 113] _ _ (by simp [bv, bi]) 1 rfl (by omega)) (fun k hk => .inr (.inr hk))).mono ?_
 rintro e w5 ⟨rfl, hs6, hk6⟩
 have HB5 : Hid (Bench w w5 b s x sf2 sx0) := ⟨_, none, hs6, keepIx (HX4.out.below ((Below.refl _ _).alloc (Nat.le_refl _) (.cells #[.int .u8 113] 5 (1, 2)))) ⟨.inl (.inl (.inr rfl)), fun k hk => by cases hk⟩ (hk6.fewer (fun k h => .inl h)), ⟨.inl (.inl (.inr rfl)), fun k hk => by cases hk⟩, HXL.out⟩
 clear hs5 hs6 hk6
 go_wp2_with fail
 refine (HB5.out.scan [] HG.out.2.1 (by have := H7.out.1; omega) (by have := H7.out.1; omega) HS0.out (by simp) (fun _ h => by cases h) (fun _ h => by cases h)).mono ?_
 rintro e w6 ⟨rv6, rfl, hb6⟩
 have HB6 : Hid (Bench w w6 b s x sf3 sx1) := hb6
 rw [H3.out.1, H3.out.2]
 clear hb6
 go_wp2_with fail
 refine (HB6.out.scan [] HG.out.2.2.1 (by have := H7.out.2.1; omega) (by have := H7.out.2.1; omega) HS0.out (by simp) (fun _ h => by cases h) H8.out.1).mono ?_
 rintro e w7 ⟨rv7, rfl, hb7⟩
 have HB7 : Hid (Bench w w7 b s x sf4 sx2) := hb7
 rw [H4.out.1, H4.out.2]
 clear hb7
 go_wp2_with fail
 refine (HB7.out.user [118] 1 HG.out.2.2.2.1 (by omega) (by simp) (By.nil_ _ _) (G := fun _ => False) (fun _ h => h.elim)).mono ?_
 rintro e w8 ⟨rfl, hb8⟩
 have HB8 : Hid (Bench w w8 b s x sf5 sx2) := hb8
 clear hb8
 go_wp2_with fail
 refine (HB8.out.scan [] HG.out.2.2.2.2.1 (by have := H7.out.2.2.1; omega) (by have := H7.out.2.2.1; omega) HS0.out (by simp) (fun _ h => by cases h) H8.out.2.1).mono ?_
 rintro e w9 ⟨rv9, rfl, hb9⟩
 have HB9 : Hid (Bench w w9 b s x sf6 sx3) := hb9
 rw [H5.out.1, H5.out.2]
 clear hb9
 go_wp2_with fail
 refine (HB9.out.scan [] HG.out.2.2.2.2.2 (by have := H7.out.2.2.2; omega) (by have := H7.out.2.2.2; omega) HS0.out (by simp) (fun _ h => by cases h) H8.out.2.2).mono ?_
 rintro e w10 ⟨rv10, rfl, hb10⟩
 have HB10 := Lib.hid hb10.bel
 rw [H6.out.1, H6.out.2]
 clear hb10
 go_wp2_with fail
 go_ret
 exact ⟨rfl, HB10.out⟩
end Go.Proofs.YtbenkmihkbjgeaaGreat.Tx
