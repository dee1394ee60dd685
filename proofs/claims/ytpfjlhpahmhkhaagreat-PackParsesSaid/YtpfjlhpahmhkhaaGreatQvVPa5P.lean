/- PackParses answers true for every list of bytes, every list of lists of bytes, every bool, and what was handed in reads behind the call as before. No condition. -/
import Derived.Test.YtpfjlhpahmhkhaaGreatQv52
import Derived.Test.YtpfjlhpahmhkhaaGreatQv53
import Derived.Test.YtpfjlhpahmhkhaaGreatRows
import Derived.WalkKit
import Derived.ProofKit
import Derived.OpenShut
import Derived.ShutString
import Derived.ChangeOld
import Derived.Below
import Derived.SizedLaws
import Derived.Deep.Matrix
namespace Go.Proofs.YtpfjlhpahmhkhaaGreat.packParses
open Go.ChangeShapes Go.WideShapes Go.ChangeAt Go.RowKit
open Go.ChangeMaps (open_string shut_string)
open Go.Proofs.YtpfjlhpahmhkhaaGreat.Ob Go.Proofs.YtpfjlhpahmhkhaaGreat.Sh
set_option linter.unusedVariables false
set_option linter.unusedSimpArgs false
theorem cells22 : Tryz.prog.cellsOf 32 = 1 := by kernel_rfl
theorem cells5 : Tryz.prog.cellsOf 5 = 1 := by kernel_rfl
theorem own : ownKnob Tryz.prog.godebug = none := by kernel_rfl
theorem laidOut : laidOutB Tryz.prog = true := by kernel_rfl
set_option maxRecDepth 100000 in
theorem lifted (os : Os) (started : os.Started) (H : Type) (enc : TypeId × Value → H) :
  ReturnsInHanded {} Tryz.checked os 4 .any (Rows.packParsesSpec.pre6 enc Tryz.prog Tryz.f4 Rows.packParsesRow.domain false) (Rows.packParsesSpec.post enc Tryz.prog Tryz.f4 false true false false) := by
 refine returnsInHanded_of_change (C := Tryz.checked) own started (by kernel_rfl) Tryz.func4
  (ChangeSpec.witness6 (enc := enc) (C := Tryz.checked) false ⟨#[], #[.slice none 0 0, .slice none 0 0, .bool false], []⟩ 8 (by kernel_rfl) (by kernel_rfl) (by kernel_rfl) (by kernel_rfl)) ?_
 intro W base args ds gs before hval0 hW hcnd _
 have hval : ∀ (j : Nat) t v, Tryz.f4.params[j]? = some t → args[j]? = some v → Value.okWide Tryz.prog W .any base t v := hval0
 have hW' := hW
 obtain ⟨p, q, hA0, hV, rfl, hfz, hnd⟩ := hW
 have hA : DataW.TrodAll enc Tryz.prog W 0 (fun _ => true) true Tryz.f4.params.toList args.toList ds p := hA0
 rw [Tryz.params4] at hA hval
 obtain ⟨v0, vs0, d0, ds0, p0, q0, hargs, rfl, rfl, h0, r0⟩ := trodAll_cons hA
 obtain ⟨v1, vs1, d1, ds1, p1, q1, rfl, rfl, rfl, h1, r1⟩ := trodAll_cons r0
 obtain ⟨v2, vs2, d2, ds2, p2, q2, rfl, rfl, rfl, h2, r2⟩ := trodAll_cons r1
 obtain ⟨rfl, rfl, rfl⟩ := trodAll_nil r2
 obtain rfl : args = #[v0, v1, v2] := by cases args; simp_all
 obtain ⟨rfl, rfl⟩ := trodVars_none hV
 obtain ⟨a0, len0, cap0, rfl⟩ := okWide_slice Tryz.underlying32 (hval 0 32 v0 rfl rfl)
 have k0 := h0
 have lt0 : ∀ x ∈ p0, x.block < W.heap.size := by obtain ⟨m, hm⟩ := k0; exact DataW.trod_lt m _ _ _ hm
 obtain ⟨b0, w0⟩ : ∃ bs, Sl W (.slice a0 len0 cap0) bs := by
  obtain ⟨fuel, hf⟩ := h0
  rcases open_ints Tryz.underlying32 Tryz.underlying5 (by kernel_rfl) hf with ⟨hcs, _⟩ | ⟨x, l, c, zs, hcs, _, hl, hm, hz, _, hcell, hwz⟩
  ·simp [Value.cells] at hcs
   obtain ⟨rfl, rfl, rfl⟩ := hcs
   exact ⟨[], none, 0, rfl, by simp, by unfold maxLen; omega, In.nil _ _, fun _ => rfl⟩
  ·simp [Value.cells] at hcs
   obtain ⟨rfl, rfl, rfl⟩ := hcs
   have hrow : IsRow .u8 W (some x) len0 cap0 zs := .inr ⟨_, rfl, hl, hm, by simpa using hz, hcell, hwz⟩
   exact ⟨_, hrow.sl'.2⟩
 obtain ⟨a1, len1, cap1, rfl⟩ := okWide_slice Tryz.underlying42 (hval 1 42 v1 rfl rfl)
 have k1 := h1
 have lt1 : ∀ x ∈ p1, x.block < W.heap.size := by obtain ⟨m, hm⟩ := k1; exact DataW.trod_lt m _ _ _ hm
 obtain ⟨l1, w1⟩ : ∃ l, LsV W (.slice a1 len1 cap1) l := by
  obtain ⟨fuel, hf⟩ := h1
  rcases Go.Deep.open_int_rows Tryz.underlying42 Tryz.underlying32 Tryz.underlying5 cells22 cells5 hf with ⟨hcs, _⟩ | ⟨x, l, c, A, L, C, Z, hcs, _, hl, hm, hx, hrows⟩
  ·simp [Value.cells] at hcs
   obtain ⟨rfl, rfl, rfl⟩ := hcs
   exact ⟨[], LsV.nil_ W⟩
  ·simp [Value.cells] at hcs
   obtain ⟨rfl, rfl, rfl⟩ := hcs
   have hrow : ∀ r, r < cap1 → IsRow .u8 W (A r) (L r) (C r) (Z r) := fun r hr => by
    obtain ⟨h1, h2, h3, h4, h5, h6, h7⟩ := hrows r hr
    cases hA : A r with
    | none =>
     have := h6 hA
     exact .inl ⟨rfl, by omega, this, List.eq_nil_of_length_eq_zero (by omega)⟩
    | some y =>
     exact .inr ⟨y, rfl, h2, h3, h4, fun i hi => (h7 y hA).2 i (by omega), h5⟩
   have hln : ((List.range len1).map fun r => rowBytes (Z r) (L r)).length = len1 := by simp
   refine ⟨(List.range len1).map fun r => rowBytes (Z r) (L r), ?_⟩
   have := LsV.mk (w := W) (A := some x) (c := cap1) (l := (List.range len1).map fun r => rowBytes (Z r) (L r)) (fun r => .slice (A r) (L r) (C r)) (by rw [hln]; exact hl) hm (fun e => by cases e) (fun k a hk => by
    rw [List.getElem?_map] at hk
    cases hj : (List.range len1)[k]? with
    | none => rw [hj] at hk; cases hk
    | some m =>
     rw [hj] at hk
     obtain ⟨hjl, hjm⟩ := List.getElem?_eq_some_iff.1 hj
     rw [List.getElem_range] at hjm
     subst hjm
     rw [List.length_range] at hjl
     injection hk with hk
     obtain ⟨h1, _⟩ := hrows k (by omega)
     obtain ⟨h3, h4⟩ := (hrow k (by omega)).sl'
     have h9 := World.block_lt_of_cell? W _ h1
     rw [block_of_add] at h9
     rw [← hk]
     exact ⟨x, rfl, h9, h1, h4⟩)
   rwa [hln] at this
 obtain ⟨a2, rfl, rfl, rfl⟩ := open_bool Tryz.underlying4 (hval 2 4 v2 rfl rfl) h2
 clear hA0 hval0
 refine (pparses_any (.slice a0 len0 cap0) b0 (.slice a1 len1 cap1) l1 a2 W w0 w1).mono fun e W' ⟨he, bel⟩ => ?_
 subst he
 exact ⟨_, rfl, _, _, _, [], _, [], hW', trodAll_mk1 (shut_bool Tryz.underlying4 _), (trodAll_cons_mk (Below.trod laidOut (by kernel_rfl) (of_decide_eq_true (by kernel_rfl)) k0 bel lt0) (trodAll_cons_mk (Below.trod laidOut (by kernel_rfl) (of_decide_eq_true (by kernel_rfl)) k1 bel lt1) (trodAll_cons_mk (shut_bool Tryz.underlying4 a2) trodAll_mk0))), rfl, bel.frame _, fun h => by cases h⟩
set_option maxRecDepth 100000 in
set_option maxHeartbeats 4000000 in
theorem closed : joinedFacts Tryz.prog 4 Tryz.f4 Rows.packParsesSpec Rows.packParsesRow = true := by
  simp only [joinedFacts, Bool.and_eq_true]
  and_intros
  all_goals as_aux_lemma => kernel_rfl
theorem over : Rows.packParsesRow.holds Tryz.pinned (OpenSpec.ofChange Rows.packParsesSpec) :=
 OpenClaim.holds_of_wide 4 Tryz.f4 rfl rfl rfl rfl rfl rfl rfl ⟨rfl, rfl, rfl, rfl, rfl⟩ rfl rfl rfl rfl rfl (by kernel_rfl) Tryz.func4 closed
  (of_decide_eq_true (by kernel_rfl)) (by unfold Func.isWrapper; first | (rw [if_pos (by decide +kernel)]; kernel_rfl) | (rw [if_neg (by decide +kernel)]; exact ⟨rfl, rfl⟩))
  (fun os started H enc _ => lifted os started H enc)
theorem proved : Rows.PackParsesSaid := over
#print axioms proved
end Go.Proofs.YtpfjlhpahmhkhaaGreat.packParses
