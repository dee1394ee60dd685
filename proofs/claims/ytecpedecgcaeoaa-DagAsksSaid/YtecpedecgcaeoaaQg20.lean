/- Texts put together: Ts5, Ts6, Ts7. -/
import Derived.Test.YtecpedecgcaeoaaQg19
import Derived.Laws.CopyOwn
import Derived.Test.YtecpedecgcaeoaaQg07
/- wire's Sort. -/
namespace Go.Proofs.Ytecpedecgcaeoaa.Tx
open Go.RowKit Go.Proofs.Ytecpedecgcaeoaa.Sh

theorem make_texts (k l : Nat) (hk : k ≤ l) (hl : l ≤ 2000000) (w : World) : (Instr.makeSlice 23 (.int .i64 (k : Int)) (.int .i64 (l : Int))).run Try.prog w = .ok (.slice (some ⟨w.heap.size, 0, none⟩) k l) (w.alloc (.cells (madeCells #[.string ⟨#[]⟩] l) 9)) := by
  obtain ⟨i0, hi, hz0, hz1, hz2⟩ := info_parts info_str
  have hr := run_make (P := Try.prog) w 23 9 i0 (.string ⟨#[]⟩) Try.underlying23 hi hz0 .i64 .i64 k l (by omega) (by omega) (by rw [hz2]; omega) (by omega)
  rw [hz1] at hr
  simpa [Value.cells] using hr
theorem blk_made (w : World) (l : Nat) : BlkL (w.alloc (.cells (madeCells #[.string ⟨#[]⟩] l) 9)) w.heap.size (List.replicate l (.string ⟨#[]⟩)) := by
  have h : BlkL (w.alloc (.cells (madeCells #[.string ⟨#[]⟩] l) 9)) w.heap.size (madeCells #[.string ⟨#[]⟩] l).toList := by
    unfold BlkL
    rw [Array.toArray_toList]
    exact heap_alloc_new w _
  rwa [toList_madeCells_one] at h
theorem own_blkL {w : World} {B g n : Nat} {ts : List ByteArray} (h : BlkL w g (ts.map sv)) (hB : B ≤ g) (hn : ts.length = n) (hm : n ≤ maxLen) : OwnV 9 w B (.slice (some ⟨g, 0, none⟩) n n) (ts.map sv) := by
  subst hn
  have e : ts.length = (ts.map sv).length := (List.length_map _).symm
  rw [e]
  exact OwnV.mk hB h (Nat.le_refl _) (by rw [← e]; exact hm) (by simp) (by rw [List.toList_toArray, List.take_of_length_le (Nat.le_refl _)])
theorem sizeStr : (Try.prog.info? 9).map (·.size) = some 1 := by kernel_rfl

/-- What Sort's round is told. -/
def SR (w : World) (n : Nat) (xs : List ByteArray) (va vb i : Value) (wr : World) : Prop :=
  ∃ (s gR gM : Nat) (ys : List ByteArray) (old : List Value), va = .slice (some ⟨gR, 0, none⟩) n n ∧ vb = .slice (some ⟨gM, 0, none⟩) n n ∧ i = .int .i64 s ∧ gM ≠ gR ∧ w.heap.size ≤ gR ∧ w.heap.size ≤ gM ∧ 0 < s ∧ s ≤ 2000000 ∧ Runs s ys ∧ ys.Perm xs ∧ BlkL wr gR (ys.map sv) ∧ BlkL wr gM old ∧ old.length = n ∧ Below w.heap.size w wr

set_option maxRecDepth 100000 in
set_option maxHeartbeats 1600000 in
theorem sort_any (v : Value) (xs : List ByteArray) (w : World) (h : SlV w v (xs.map sv)) (hn : xs.length ≤ 1000000) : Calls Try.prog 35 #[v] w (TextsPost w (sortT xs)) := by
  obtain ⟨A, c, rfl, hlc, hcm, hR⟩ := h.len
  rw [List.length_map] at hlc hR ⊢
  obtain ⟨n, hl⟩ : ∃ n, xs.length = n := ⟨_, rfl⟩
  rw [hl] at hlc hR hn ⊢
  unfold maxLen at hcm
  have HL := Lib.hid hl
  have HR := Lib.hid hR
  have hmk := make_texts n n (Nat.le_refl _) (by omega)
  have n0 : (0 : Int) ≤ (n : Int) := by omega
  have n1 : (n : Int) ≤ 1000000 := by omega
  have HM := Lib.hid (blk_made w n)
  clear hl hR h
  have hBel : Below w.heap.size w (w.alloc (.cells (madeCells #[.string ⟨#[]⟩] n) 9)) := (Below.refl _ _).alloc (Nat.le_refl _) _
  have HBEL := Lib.hid hBel
  clear hBel
  have hsrc : 0 < (xs.map sv).length → (some (⟨w.heap.size, 0, none⟩ : Addr)) = some ⟨w.heap.size, 0, none⟩ ∧ ∃ ad, A = some ad ∧ ∀ j v, (xs.map sv)[j]? = some v → (w.alloc (.cells (madeCells #[.string ⟨#[]⟩] n) 9)).cell? (ad.add j) = some v := fun h0 => by
    rw [List.length_map, HL.out] at h0
    obtain ⟨ad, hA, hlt, hc⟩ := HR.out.2 h0
    exact ⟨rfl, ad, hA, fun j v hv => (World.cell?_alloc_lt w _ (ad.add j) (by rw [block_of_add]; exact hlt)).trans (hc j v hv)⟩
  have HSRC := Lib.hid hsrc
  clear hsrc
  go_enter Try.func35, Try.ntmps35
  go_wp2_with (refine wpList_copy_splice rfl (.tmp 9) (.tmp 10) 23 23 rfl 9 Try.underlying23 sizeStr (some ⟨w.heap.size, 0, none⟩) A n n n c rfl rfl w.heap.size 0 (List.replicate n (.string ⟨#[]⟩)) 9 HM.out (xs.map sv) (by rw [List.length_map, HL.out]; exact (Nat.min_self n).symm) HSRC.out (by rw [List.length_map, HL.out, List.length_replicate]; omega) (sv_one xs) w.heap.size w HBEL.out (Nat.le_refl _) ?_; intro w2 hb2 hbel2; have HW2 := Lib.hid hbel2; have hz2 := hbel2.size; clear hbel2)
  have hR2 : BlkL w2 w.heap.size (xs.map sv) := by
    have := hb2.out
    unfold BlkL Blk
    rw [this, splice, List.take_zero, List.nil_append, Nat.zero_add, List.length_map, HL.out, List.drop_of_length_le (by simp), List.append_nil]
  have hst : SR w n xs (.slice (some ⟨w.heap.size, 0, none⟩) n n) (.slice (some ⟨w2.heap.size, 0, none⟩) n n) (.int .i64 ((1 : Nat) : Int)) (w2.alloc (.cells (madeCells #[.string ⟨#[]⟩] n) 9)) :=
    ⟨1, w.heap.size, w2.heap.size, xs, List.replicate n (.string ⟨#[]⟩), rfl, rfl, rfl, by have := hR2.lt; omega, Nat.le_refl _, hz2, by omega, by omega, runs_one xs, List.Perm.refl _, Blk.alloc hR2 _, blk_made w2 n, by simp, HW2.out.alloc hz2 _⟩
  have HST := Lib.hid hst
  clear hst hR2 hb2 HM HBEL HSRC HW2 hmk HR
  go_loopw [3, 4, 5] (fun va vb i wr => SR w n xs va vb i wr) (fun _ _ i _ => n - (intOf i).toNat)
  case atStart => exact HST.out
  case round =>
    clear HST
    obtain ⟨s, gR, gM, ys, old, rfl, rfl, rfl, hne, hgR, hgM, hs0, hs1, hruns, hperm, hbR, hbM, hol, hbel⟩ := hrel
    have s0 : (0 : Int) < (s : Int) := by omega
    have s1 : (s : Int) ≤ 2000000 := by omega
    have hyl := hperm.length_eq
    rw [HL.out] at hyl
    have HRUNS := Lib.hid hruns
    have HPERM := Lib.hid hperm
    have HBR := Lib.hid hbR
    have HBW := Lib.hid hbel
    have HNE := Lib.hid hne
    have HYL := Lib.hid hyl
    clear hruns hperm hbR hbel hyl hne
    by_cases hlt : s < n
    · have c1 : (s : Int) < (n : Int) := by omega
      have HBM := Lib.hid hbM
      have HOL := Lib.hid hol
      clear hbM hol
      go_wp2_with fail
      refine (mpairs_any gM gR n s old ys _ HNE.out hs0 hs1 HYL.out hn HOL.out HBR.out HBM.out).mono ?_
      rintro e w3 ⟨rfl, hR3, hM3, hg3⟩
      have hz3 := HBW.out.size
      have HJ : Hid (SR w n xs (.slice (some ⟨gM, 0, none⟩) n n) (.slice (some ⟨gR, 0, none⟩) n n) (.int .i64 ((s * 2 : Nat) : Int)) w3) :=
        ⟨s * 2, gM, gR, passL s ys, ys.map sv, rfl, rfl, rfl, Ne.symm HNE.out, hgM, hgR, by omega, by omega, by rw [Nat.mul_comm]; exact runs_pass hs0 ys HRUNS.out, (passL_perm hs0 ys).trans HPERM.out, hM3, hR3, by rw [List.length_map]; exact HYL.out, HBW.out.trans (below_of_only hg3 hgM hz3)⟩
      clear hR3 hM3 hg3
      go_wp2
      go_roundw
      case rel => exact HJ.out
      case measure => simp [intOf]; omega
    · have c1 : (n : Int) ≤ (s : Int) := by omega
      have hres : OwnV 9 wr w.heap.size (.slice (some ⟨gR, 0, none⟩) n n) ((sortT xs).map sv) := by
        rw [← sortT_eq (runs_all HRUNS.out (by rw [HYL.out]; omega)) HPERM.out]
        exact own_blkL HBR.out hgR HYL.out (by unfold maxLen; omega)
      have HRES := Lib.hid hres
      clear hbM hol hres
      go_wp2
      go_ret
      exact ⟨_, rfl, HRES.out, HBW.out⟩
end Go.Proofs.Ytecpedecgcaeoaa.Tx
/- Has, Texts, CopyTexts, Few, flag; appends of texts. -/
namespace Go.Proofs.Ytecpedecgcaeoaa.Tx
open Go.RowKit Go.Proofs.Ytecpedecgcaeoaa.Sh

end Go.Proofs.Ytecpedecgcaeoaa.Tx
/- Few; wire's Unique and Merge. -/
namespace Go.Proofs.Ytecpedecgcaeoaa.Tx
open Go.RowKit Go.Proofs.Ytecpedecgcaeoaa.Sh

set_option maxRecDepth 100000 in
set_option maxHeartbeats 800000 in
theorem uniq_any (v : Value) (xs : List ByteArray) (w : World) (h : SlV w v (xs.map sv)) (hn : xs.length ≤ 1000000) : Calls Try.prog 30 #[v] w (TextsPost w (uniqT xs)) := by
  have hso := sort_any v xs w h hn
  have HSO := Lib.hid hso
  clear hso h
  go_enter Try.func30, Try.ntmps30
  go_wp2_with fail
  refine (HSO.out).mono ?_
  rintro e w1 ⟨v1, rfl, ho1, hb1⟩
  have HB1 := Lib.hid hb1
  have hsl := ho1.slv
  have hz1 := hb1.size
  obtain ⟨ts, hts⟩ : ∃ ts, sortT xs = ts := ⟨_, rfl⟩
  have hun : uniqT xs = ddN ts ts.length := by rw [← hts]; rfl
  have HUN := Lib.hid hun
  have htl : ts.length ≤ 1000000 := by rw [← hts, sortT_length]; exact hn
  rw [hts] at hsl
  obtain ⟨A, c, hv, hlc, hcm, hR⟩ := hsl.len
  rw [List.length_map] at hlc hR hv
  obtain ⟨l, hl⟩ : ∃ l, ts.length = l := ⟨_, rfl⟩
  rw [hl] at hlc htl hv
  have HR := Lib.hid hR
  have HL := Lib.hid hl
  subst hv
  unfold maxLen at hcm
  clear hl hR hsl hun hts ho1 hb1 HSO
  go_wp2_with fail
  go_loopw [4, 5, 6, 11] (fun v _ _ i wr => ∃ k : Nat, k ≤ l ∧ i = .int .i64 k ∧ OwnV 9 wr w1.heap.size v ((ddN ts k).map sv) ∧ Below w1.heap.size w1 wr) (fun _ _ _ i _ => l - (intOf i).toNat)
  case atStart => exact ⟨0, Nat.zero_le _, rfl, OwnV.nil_ _ _, Below.refl _ _⟩
  case round =>
    obtain ⟨k, hk, rfl, ho, hbw⟩ := hrel
    have hwz := hbw.size
    have HO := Lib.hid ho
    have HBW := Lib.hid hbw
    clear ho hbw
    by_cases hlt : k < l
    · have hkl : k < ts.length := by rw [HL.out]; exact hlt
      have HRW := Lib.hid ((HR.out.below HBW.out).more HBW.out.size)
      obtain ⟨ad, rfl, hcell⟩ := texts_at HRW.out k hkl
      have hsm : (ddN ts k).length + 1 ≤ 2000000 := by have := ddN_len ts k; omega
      have z0 : (0 : Int) ≤ (k : Int) := by omega
      have z1 : (k : Int) < (l : Int) := by omega
      obtain ⟨x, hx⟩ : ∃ x, ts[k] = x := ⟨_, rfl⟩
      rw [hx] at hcell
      have hcases : (((k : Int) == 0) = true ∧ ddN ts (k + 1) = ddN ts k ++ [x]) ∨ (∃ (j : Nat) (y : ByteArray), (k : Int) - 1 = (j : Int) ∧ ((k : Int) == 0) = false ∧ wr.cell? (ad.add j) = some (.string y) ∧ j < l ∧
          (((x.toList == y.toList) = true ∧ ddN ts (k + 1) = ddN ts k) ∨ ((x.toList == y.toList) = false ∧ ddN ts (k + 1) = ddN ts k ++ [x]))) := by
        by_cases hk0 : k = 0
        · subst hk0
          exact .inl ⟨rfl, by rw [ddN_first ts hkl, hx]⟩
        · right
          obtain ⟨j, rfl⟩ : ∃ j, k = j + 1 := ⟨k - 1, by omega⟩
          obtain ⟨ad', he, hcell'⟩ := texts_at HRW.out j (by omega)
          injection he with he
          subst he
          refine ⟨j, ts[j]'(by omega), by omega, by rw [beq_eq_false_iff_ne]; omega, hcell', by omega, ?_⟩
          by_cases hsame : ts[j + 1] = ts[j]'(by omega)
          · exact .inl ⟨by rw [← hx, hsame, beq_self_eq_true], ddN_skip ts j hkl hsame⟩
          · exact .inr ⟨by rw [← hx]; exact toList_ne hsame, by rw [ddN_more ts j hkl hsame, hx]⟩
      clear hx hkl
      rcases hcases with ⟨t0, hn⟩ | ⟨j, y, hj, t0, hcy, hjl, ⟨t1, hn⟩ | ⟨t1, hn⟩⟩
      · have hnx := Lib.hid hn
        clear hn
        go_wp2_with (at_builtin; refine append_text rfl (.tmp 27) (.tmp 29) rfl wr w1.heap.size u4 _ rfl HO.out x rfl hsm hwz ?_; intro v3 w3 ho3 hb3; have HO3 := Lib.hid ho3; have HB3 := Lib.hid hb3; clear ho3 hb3)
        go_roundw
        case rel => exact ⟨k + 1, by omega, by go_num, by rw [hnx.out]; exact HO3.out, HBW.out.trans HB3.out⟩
        case measure => simp [intOf]; omega
      · have hnx := Lib.hid hn
        have j0 : (0 : Int) ≤ (j : Int) := by omega
        have j1 : (j : Int) < (l : Int) := by omega
        have t2 : (x.toList != y.toList) = false := by rw [bne, t1]; rfl
        clear hn
        go_wp2
        go_roundw
        case rel => exact ⟨k + 1, by omega, by go_num, by rw [hnx.out]; exact HO.out, HBW.out⟩
        case measure => simp [intOf]; omega
      · have hnx := Lib.hid hn
        have j0 : (0 : Int) ≤ (j : Int) := by omega
        have j1 : (j : Int) < (l : Int) := by omega
        have t2 : (x.toList != y.toList) = true := by rw [bne, t1]; rfl
        clear hn
        go_wp2_with (at_builtin; refine append_text rfl (.tmp 27) (.tmp 29) rfl wr w1.heap.size u4 _ rfl HO.out x rfl hsm hwz ?_; intro v3 w3 ho3 hb3; have HO3 := Lib.hid ho3; have HB3 := Lib.hid hb3; clear ho3 hb3)
        go_roundw
        case rel => exact ⟨k + 1, by omega, by go_num, by rw [hnx.out]; exact HO3.out, HBW.out.trans HB3.out⟩
        case measure => simp [intOf]; omega
    · obtain rfl : k = l := by omega
      have hres := Lib.hid (HO.out.base hz1)
      go_wp2
      go_ret
      refine ⟨u4, rfl, ?_, HB1.out.trans (HBW.out.mono hz1)⟩
      rw [HUN.out, HL.out]
      exact hres.out

end Go.Proofs.Ytecpedecgcaeoaa.Tx
