/- Texts put together: UTs4, UTs5, UTs6, UTs1, UTs7, UTs8. -/
import Derived.Test.YtbenkmihkbjgeaaGreatQu39
import Derived.Deep.DeepCutAuto
import Derived.Laws.CopyOwn
/- mergePairs. -/
namespace Go.Proofs.YtbenkmihkbjgeaaGreat.Tx
open Go.RowKit Go.Proofs.YtbenkmihkbjgeaaGreat.Sh
theorem at_all (xs : List ByteArray) (o : Nat) : At (xs.map sv) o (xs.drop o) := by
 intro j s h
 rw [List.getElem?_drop] at h
 rw [List.getElem?_map, h]
 rfl
theorem at_take {F : List Value} {o : Nat} {xs : List ByteArray} (h : At F o xs) (m : Nat) : At F o (xs.take m) := by
 intro j s hs
 rw [List.getElem?_take] at hs
 by_cases hj : j < m
 ·rw [if_pos hj] at hs; exact h j s hs
 ·rw [if_neg hj] at hs; cases hs
theorem size_str (w : World) : (sizeOf (Tryz.prog.elem 23)).run Tryz.prog w = .ok 1 w := by kernel_rfl
set_option maxRecDepth 100000 in
theorem slice_txt (g n lo hi : Nat) (a b : Int) (ha : a = (lo : Int)) (hb : b = (hi : Int)) (h1 : lo ≤ hi) (h2 : hi ≤ n) (w : World) :
  (Instr.slice 23 (.slice (some ⟨g, 0, none⟩) n n) (some (.int .i64 a)) (some (.int .i64 b)) none).run Tryz.prog w = .ok (.slice (some ⟨g, if n = lo then 0 else lo, none⟩) (hi - lo) (n - lo)) w := by
 subst ha hb
 rw [run_slice_lh w 23 (some ⟨g, 0, none⟩) n n Tryz.underlying23 .i64 .i64 (lo : Int) (hi : Int) (by omega) (by omega) (by omega), size_str]
 simp only [Result.andThen_ok, Int.toNat_natCast, sliced]
 by_cases h : n = lo
 ·subst h
  simp
 ·simp [h, Addr.add_mid]
def MP (w : World) (gt gf n s : Nat) (xs : List ByteArray) (i : Value) (wr : World) : Prop :=
 ∃ (k : Nat) (done : List ByteArray) (rest : List Value), i = .int .i64 k ∧ k ≤ n + 2 * s ∧ done.length = min k n ∧ done.length + rest.length = n ∧ done ++ passL s (xs.drop k) = passL s xs ∧ BlkL wr gf (xs.map sv) ∧ BlkL wr gt (done.map sv ++ rest) ∧ w.grownBy wr (some gt)
theorem MP.next {w w' : World} {gt gf n s k L : Nat} {xs done : List ByteArray} {rest : List Value} (hk : k < n) (hs : 0 < s) (hn : xs.length = n) (hdl : done.length = min k n) (hrl : done.length + rest.length = n) (hp : done ++ passL s (xs.drop k) = passL s xs) (hL : L = min (2 * s) (n - k))
  (hF : BlkL w' gf (xs.map sv)) (hT : BlkL w' gt (done.map sv ++ (mergeL ((xs.drop k).take s) ((xs.drop (k + s)).take s)).map sv ++ rest.drop L)) (hg : w.grownBy w' (some gt)) : MP w gt gf n s xs (.int .i64 ((k + 2 * s : Nat) : Int)) w' := by
 have hml : (mergeL ((xs.drop k).take s) ((xs.drop (k + s)).take s)).length = L := by
  rw [mergeL_length, List.length_take, List.length_take, List.length_drop, List.length_drop]; omega
 refine ⟨k + 2 * s, done ++ mergeL ((xs.drop k).take s) ((xs.drop (k + s)).take s), rest.drop L, rfl, by omega, by rw [List.length_append, hml]; omega, by rw [List.length_append, hml, List.length_drop]; omega, ?_, hF, by rw [List.map_append]; exact hT, hg⟩
 rw [← hp, passL_cons (xs := xs.drop k) (by rw [List.length_drop]; omega) hs, List.drop_drop, List.drop_drop, List.append_assoc]
theorem mpairs_call {gt gf n s k L m1 la lb ca cb ct o3 : Nat} {xs done : List ByteArray} {rest : List Value} {wr : World} (hne : gt ≠ gf) (hk : k < n) (hn : xs.length = n) (hnm : n ≤ 1000000) (hdl : done.length = min k n) (hrl : done.length + rest.length = n) (hL : L = min (2 * s) (n - k))
  (hla : la = min s (n - k)) (hlb : lb = min s (n - (k + s))) (hca : la ≤ ca) (hcam : ca ≤ maxLen) (hcb : lb ≤ cb) (hcbm : cb ≤ maxLen) (hct : L ≤ ct) (hctm : ct ≤ maxLen) (hm1 : m1 = min (k + s) n) (ho3 : (if n = m1 then 0 else m1) = o3)
  (hF : BlkL wr gf (xs.map sv)) (hT : BlkL wr gt (done.map sv ++ rest)) :
  Calls Tryz.prog 232 #[.slice (some ⟨gt, k, none⟩) L ct, .slice (some ⟨gf, k, none⟩) la ca, .slice (some ⟨gf, o3, none⟩) lb cb] wr fun e w' => e = .returned (.tuple #[]) ∧ BlkL w' gf (xs.map sv) ∧ BlkL w' gt (done.map sv ++ (mergeL ((xs.drop k).take s) ((xs.drop (k + s)).take s)).map sv ++ rest.drop L) ∧ wr.grownBy w' (some gt) := by
 have h1 : ((xs.drop k).take s).length = la := by rw [List.length_take, List.length_drop]; omega
 have h2 : ((xs.drop (k + s)).take s).length = lb := by rw [List.length_take, List.length_drop]; omega
 have h := mruns_any gt gf L k k (k + s) ca cb ct ⟨gf, k, none⟩ ⟨gf, o3, none⟩ (done.map sv) (rest.take L) (rest.drop L) (xs.map sv) ((xs.drop k).take s) ((xs.drop (k + s)).take s) wr hne (by rw [List.length_map]; omega) (by rw [List.length_take]; omega) (by rw [h1, h2]; omega) hct hctm
  (by rw [h1]; exact hca) hcam (by rw [h2]; exact hcb) hcbm (fun _ => rfl) (fun h0 => by rw [h2] at h0; rw [← ho3, if_neg (by omega)]; congr 1; omega) (at_take (at_all xs k) s) (at_take (at_all xs (k + s)) s) hF (by rw [List.append_assoc, List.take_append_drop]; exact hT)
 rw [h1, h2] at h
 exact h
set_option maxRecDepth 100000 in
set_option maxHeartbeats 3200000 in
theorem mpairs_any (gt gf n s : Nat) (old : List Value) (xs : List ByteArray) (w : World) (hne : gt ≠ gf) (hs : 0 < s) (hsm : s ≤ 2000000) (hn : xs.length = n) (hnm : n ≤ 1000000) (ho : old.length = n) (hF : BlkL w gf (xs.map sv)) (hT : BlkL w gt old) :
  Calls Tryz.prog 214 #[.slice (some ⟨gt, 0, none⟩) n n, .slice (some ⟨gf, 0, none⟩) n n, .int .i64 (s : Int)] w fun e w' => e = .returned (.tuple #[]) ∧ BlkL w' gf (xs.map sv) ∧ BlkL w' gt ((passL s xs).map sv) ∧ w.grownBy w' (some gt) := by
 have hst : MP w gt gf n s xs (.int .i64 ((0 : Nat) : Int)) w := ⟨0, [], old, rfl, by omega, by simp, by simpa using ho, by simp, hF, by simpa using hT, World.grownBy.refl w _⟩
 have HST := Lib.hid hst
 have HNE := Lib.hid hne
 have HN := Lib.hid hn
 clear hst hne hn ho hF hT
 have s0 : (0 : Int) < (s : Int) := by omega
 have s1 : (s : Int) ≤ 2000000 := by omega
 have n0 : (0 : Int) ≤ (n : Int) := by omega
 have n1 : (n : Int) ≤ 1000000 := by omega
 go_enter Tryz.func214, Tryz.ntmps214
 go_wp2_with fail
 go_loopw [6] (fun i wr => MP w gt gf n s xs i wr) (fun i _ => n - (intOf i).toNat)
 case atStart => exact HST.out
 case round =>
  clear HST
  obtain ⟨k, done, rest, rfl, hk, hdl, hrl, hp, hF, hT, hg⟩ := hrel
  by_cases hlt : k < n
  ·have k0 : (0 : Int) ≤ (k : Int) := by omega
   have k1 : (k : Int) < (n : Int) := by omega
   have HF := Lib.hid hF
   have HT := Lib.hid hT
   have HG := Lib.hid hg
   have HP := Lib.hid hp
   have HDL := Lib.hid hdl
   have HRL := Lib.hid hrl
   clear hF hT hg hp hdl hrl hk
   have hcases : (n : Int) < (k : Int) + (s : Int) ∨ ((k : Int) + (s : Int) ≤ (n : Int) ∧ (n : Int) < (k : Int) + (s : Int) + (s : Int)) ∨ (k : Int) + (s : Int) + (s : Int) ≤ (n : Int) := by omega
   rcases hcases with d1 | ⟨d1, d2⟩ | d1
   ·have h1 := slice_txt gt n k n (k : Int) (n : Int) rfl (by omega) (by omega) (by omega)
    have h2 := slice_txt gf n k n (k : Int) (n : Int) rfl (by omega) (by omega) (by omega)
    have h3 := slice_txt gf n n n (n : Int) (n : Int) (by omega) (by omega) (by omega) (by omega)
    rw [if_neg (show ¬ n = k by omega)] at h1 h2
    obtain ⟨o3, ho3⟩ : ∃ o3, (if n = n then 0 else n) = o3 := ⟨_, rfl⟩
    rw [ho3] at h3
    have HO3 := Lib.hid ho3
    clear ho3
    go_wp2_with fail
    go_still_tail 12, (by kernel_rfl)
    change wpList _ _ _ _ _ wr.drew
    go_wp2_with fail
    refine (mpairs_call (s := s) (m1 := n) HNE.out hlt HN.out hnm HDL.out HRL.out (by omega) (by omega) (by omega) (by omega) (by unfold maxLen; omega) (by omega) (by unfold maxLen; omega) (by omega) (by unfold maxLen; omega) (by omega) (by first | exact HO3.out | simpa using HO3.out) HF.out.drew HT.out.drew).mono ?_
    rintro e w2 ⟨rfl, hF2, hT2, hg2⟩
    have hmp := Lib.hid (MP.next hlt hs HN.out HDL.out HRL.out HP.out (by omega) hF2 hT2 (only_then (only_drew HG.out) hg2))
    clear hF2 hT2 hg2 h1 h2 h3
    go_wp2
    go_roundw
    case rel => exact hmp.out
    case measure => simp [intOf]; omega
   ·have h1 := slice_txt gt n k n (k : Int) (n : Int) rfl (by omega) (by omega) (by omega)
    have h2 := slice_txt gf n k (k + s) (k : Int) ((k : Int) + (s : Int)) rfl (by omega) (by omega) (by omega)
    have h3 := slice_txt gf n (k + s) n ((k : Int) + (s : Int)) (n : Int) (by omega) (by omega) (by omega) (by omega)
    rw [if_neg (show ¬ n = k by omega)] at h1 h2
    obtain ⟨o3, ho3⟩ : ∃ o3, (if n = (k + s) then 0 else (k + s)) = o3 := ⟨_, rfl⟩
    rw [ho3] at h3
    have HO3 := Lib.hid ho3
    clear ho3
    go_wp2_with fail
    go_still_tail 12, (by kernel_rfl)
    change wpList _ _ _ _ _ wr.drew
    go_wp2_with fail
    refine (mpairs_call (s := s) (m1 := (k + s)) HNE.out hlt HN.out hnm HDL.out HRL.out (by omega) (by omega) (by omega) (by omega) (by unfold maxLen; omega) (by omega) (by unfold maxLen; omega) (by omega) (by unfold maxLen; omega) (by omega) (by first | exact HO3.out | simpa using HO3.out) HF.out.drew HT.out.drew).mono ?_
    rintro e w2 ⟨rfl, hF2, hT2, hg2⟩
    have hmp := Lib.hid (MP.next hlt hs HN.out HDL.out HRL.out HP.out (by omega) hF2 hT2 (only_then (only_drew HG.out) hg2))
    clear hF2 hT2 hg2 h1 h2 h3
    go_wp2
    go_roundw
    case rel => exact hmp.out
    case measure => simp [intOf]; omega
   ·have d0 : (k : Int) + (s : Int) ≤ (n : Int) := by omega
    have h1 := slice_txt gt n k (k + s + s) (k : Int) ((k : Int) + (s : Int) + (s : Int)) rfl (by omega) (by omega) (by omega)
    have h2 := slice_txt gf n k (k + s) (k : Int) ((k : Int) + (s : Int)) rfl (by omega) (by omega) (by omega)
    have h3 := slice_txt gf n (k + s) (k + s + s) ((k : Int) + (s : Int)) ((k : Int) + (s : Int) + (s : Int)) (by omega) (by omega) (by omega) (by omega)
    rw [if_neg (show ¬ n = k by omega)] at h1 h2
    obtain ⟨o3, ho3⟩ : ∃ o3, (if n = (k + s) then 0 else (k + s)) = o3 := ⟨_, rfl⟩
    rw [ho3] at h3
    have HO3 := Lib.hid ho3
    clear ho3
    go_wp2_with fail
    go_still_tail 12, (by kernel_rfl)
    change wpList _ _ _ _ _ wr.drew
    go_wp2_with fail
    refine (mpairs_call (s := s) (m1 := (k + s)) HNE.out hlt HN.out hnm HDL.out HRL.out (by omega) (by omega) (by omega) (by omega) (by unfold maxLen; omega) (by omega) (by unfold maxLen; omega) (by omega) (by unfold maxLen; omega) (by omega) (by first | exact HO3.out | simpa using HO3.out) HF.out.drew HT.out.drew).mono ?_
    rintro e w2 ⟨rfl, hF2, hT2, hg2⟩
    have hmp := Lib.hid (MP.next hlt hs HN.out HDL.out HRL.out HP.out (by omega) hF2 hT2 (only_then (only_drew HG.out) hg2))
    clear hF2 hT2 hg2 h1 h2 h3
    go_wp2
    go_roundw
    case rel => exact hmp.out
    case measure => simp [intOf]; omega
  ·have hd : xs.drop k = [] := List.drop_of_length_le (by have := HN.out; omega)
   rw [hd, passL_nil, List.append_nil] at hp
   have hr : rest = [] := List.eq_nil_of_length_eq_zero (by omega)
   rw [hr, List.append_nil, hp] at hT
   have HF := Lib.hid hF
   have HT := Lib.hid hT
   have HG := Lib.hid hg
   clear hF hT hg hp hdl hrl hr hd
   go_wp2_with fail
   go_end0
   exact ⟨rfl, HF.out, HT.out, HG.out⟩
end Go.Proofs.YtbenkmihkbjgeaaGreat.Tx
/- wire's Sort. -/
namespace Go.Proofs.YtbenkmihkbjgeaaGreat.Tx
open Go.RowKit Go.Proofs.YtbenkmihkbjgeaaGreat.Sh
theorem make_texts (k l : Nat) (hk : k ≤ l) (hl : l ≤ 2000000) (w : World) : (Instr.makeSlice 23 (.int .i64 (k : Int)) (.int .i64 (l : Int))).run Tryz.prog w = .ok (.slice (some ⟨w.heap.size, 0, none⟩) k l) (w.alloc (.cells (madeCells #[.string ⟨#[]⟩] l) 9)) := by
 obtain ⟨i0, hi, hz0, hz1, hz2⟩ := info_parts info_str
 have hr := run_make (P := Tryz.prog) w 23 9 i0 (.string ⟨#[]⟩) Tryz.underlying23 hi hz0 .i64 .i64 k l (by omega) (by omega) (by rw [hz2]; omega) (by omega)
 rw [hz1] at hr
 simpa [Value.cells] using hr
theorem blk_made (w : World) (l : Nat) : BlkL (w.alloc (.cells (madeCells #[.string ⟨#[]⟩] l) 9)) w.heap.size (List.replicate l (.string ⟨#[]⟩)) := by
 have h : BlkL (w.alloc (.cells (madeCells #[.string ⟨#[]⟩] l) 9)) w.heap.size (madeCells #[.string ⟨#[]⟩] l).toList := by
  unfold BlkL
  rw [Array.toArray_toList]
  exact heap_alloc_new w _
 rwa [toList_madeCells_one] at h
theorem own_blkL {w : World} {B g n : Nat} {ts : List ByteArray} (h : BlkL w g (ts.map sv)) (hB : B ≤ g) (hn : ts.length = n) (hm : n ≤ maxLen) : OwnV 9 w B (.slice (some ⟨g, 0, none⟩) n n) (ts.map sv) := by
 subst hn
 have e : ts.length = (ts.map sv).length := (List.length_map _).symm
 rw [e]
 exact OwnV.mk hB h (Nat.le_refl _) (by rw [← e]; exact hm) (by simp) (by rw [List.toList_toArray, List.take_of_length_le (Nat.le_refl _)])
theorem sizeStr : (Tryz.prog.info? 9).map (·.size) = some 1 := by kernel_rfl
def SR (w : World) (n : Nat) (xs : List ByteArray) (va vb i : Value) (wr : World) : Prop :=
 ∃ (s gR gM : Nat) (ys : List ByteArray) (old : List Value), va = .slice (some ⟨gR, 0, none⟩) n n ∧ vb = .slice (some ⟨gM, 0, none⟩) n n ∧ i = .int .i64 s ∧ gM ≠ gR ∧ w.heap.size ≤ gR ∧ w.heap.size ≤ gM ∧ 0 < s ∧ s ≤ 2000000 ∧ Runs s ys ∧ ys.Perm xs ∧ BlkL wr gR (ys.map sv) ∧ BlkL wr gM old ∧ old.length = n ∧ Below w.heap.size w wr
set_option maxRecDepth 100000 in
set_option maxHeartbeats 1600000 in
theorem sort_any (v : Value) (xs : List ByteArray) (w : World) (h : SlV w v (xs.map sv)) (hn : xs.length ≤ 1000000) : Calls Tryz.prog 185 #[v] w (TextsPost w (sortT xs)) := by
 obtain ⟨A, c, rfl, hlc, hcm, hR⟩ := h.len
 rw [List.length_map] at hlc hR ⊢
 obtain ⟨n, hl⟩ : ∃ n, xs.length = n := ⟨_, rfl⟩
 rw [hl] at hlc hR hn ⊢
 unfold maxLen at hcm
 have HL := Lib.hid hl
 have HR := Lib.hid hR
 have hmk := make_texts n n (Nat.le_refl _) (by omega)
 have n0 : (0 : Int) ≤ (n : Int) := by omega
 have n1 : (n : Int) ≤ 1000000 := by omega
 have HM := Lib.hid (blk_made w n)
 clear hl hR h
 have hBel : Below w.heap.size w (w.alloc (.cells (madeCells #[.string ⟨#[]⟩] n) 9)) := (Below.refl _ _).alloc (Nat.le_refl _) _
 have HBEL := Lib.hid hBel
 clear hBel
 have hsrc : 0 < (xs.map sv).length → (some (⟨w.heap.size, 0, none⟩ : Addr)) = some ⟨w.heap.size, 0, none⟩ ∧ ∃ ad, A = some ad ∧ ∀ j v, (xs.map sv)[j]? = some v → (w.alloc (.cells (madeCells #[.string ⟨#[]⟩] n) 9)).cell? (ad.add j) = some v := fun h0 => by
  rw [List.length_map, HL.out] at h0
  obtain ⟨ad, hA, hlt, hc⟩ := HR.out.2 h0
  exact ⟨rfl, ad, hA, fun j v hv => (World.cell?_alloc_lt w _ (ad.add j) (by rw [block_of_add]; exact hlt)).trans (hc j v hv)⟩
 have HSRC := Lib.hid hsrc
 clear hsrc
 go_enter Tryz.func185, Tryz.ntmps185
 go_wp2_with (refine wpList_copy_splice rfl (.tmp 9) (.tmp 10) 23 23 rfl 9 Tryz.underlying23 sizeStr (some ⟨w.heap.size, 0, none⟩) A n n n c rfl rfl w.heap.size 0 (List.replicate n (.string ⟨#[]⟩)) 9 HM.out (xs.map sv) (by rw [List.length_map, HL.out]; exact (Nat.min_self n).symm) HSRC.out (by rw [List.length_map, HL.out, List.length_replicate]; omega) (sv_one xs) w.heap.size w HBEL.out (Nat.le_refl _) ?_; intro w2 hb2 hbel2; have HW2 := Lib.hid hbel2; have hz2 := hbel2.size; clear hbel2)
 have hR2 : BlkL w2 w.heap.size (xs.map sv) := by
  have := hb2.out
  unfold BlkL Blk
  rw [this, splice, List.take_zero, List.nil_append, Nat.zero_add, List.length_map, HL.out, List.drop_of_length_le (by simp), List.append_nil]
 have hst : SR w n xs (.slice (some ⟨w.heap.size, 0, none⟩) n n) (.slice (some ⟨w2.heap.size, 0, none⟩) n n) (.int .i64 ((1 : Nat) : Int)) (w2.alloc (.cells (madeCells #[.string ⟨#[]⟩] n) 9)) :=
  ⟨1, w.heap.size, w2.heap.size, xs, List.replicate n (.string ⟨#[]⟩), rfl, rfl, rfl, by have := hR2.lt; omega, Nat.le_refl _, hz2, by omega, by omega, runs_one xs, List.Perm.refl _, Blk.alloc hR2 _, blk_made w2 n, by simp, HW2.out.alloc hz2 _⟩
 have HST := Lib.hid hst
 clear hst hR2 hb2 HM HBEL HSRC HW2 hmk HR
 go_loopw [3, 4, 5] (fun va vb i wr => SR w n xs va vb i wr) (fun _ _ i _ => n - (intOf i).toNat)
 case atStart => exact HST.out
 case round =>
  clear HST
  obtain ⟨s, gR, gM, ys, old, rfl, rfl, rfl, hne, hgR, hgM, hs0, hs1, hruns, hperm, hbR, hbM, hol, hbel⟩ := hrel
  have s0 : (0 : Int) < (s : Int) := by omega
  have s1 : (s : Int) ≤ 2000000 := by omega
  have hyl := hperm.length_eq
  rw [HL.out] at hyl
  have HRUNS := Lib.hid hruns
  have HPERM := Lib.hid hperm
  have HBR := Lib.hid hbR
  have HBW := Lib.hid hbel
  have HNE := Lib.hid hne
  have HYL := Lib.hid hyl
  clear hruns hperm hbR hbel hyl hne
  by_cases hlt : s < n
  ·have c1 : (s : Int) < (n : Int) := by omega
   have HBM := Lib.hid hbM
   have HOL := Lib.hid hol
   clear hbM hol
   go_wp2_with fail
   refine (mpairs_any gM gR n s old ys _ HNE.out hs0 hs1 HYL.out hn HOL.out HBR.out HBM.out).mono ?_
   rintro e w3 ⟨rfl, hR3, hM3, hg3⟩
   have hz3 := HBW.out.size
   have HJ : Hid (SR w n xs (.slice (some ⟨gM, 0, none⟩) n n) (.slice (some ⟨gR, 0, none⟩) n n) (.int .i64 ((s * 2 : Nat) : Int)) w3) :=
    ⟨s * 2, gM, gR, passL s ys, ys.map sv, rfl, rfl, rfl, Ne.symm HNE.out, hgM, hgR, by omega, by omega, by rw [Nat.mul_comm]; exact runs_pass hs0 ys HRUNS.out, (passL_perm hs0 ys).trans HPERM.out, hM3, hR3, by rw [List.length_map]; exact HYL.out, HBW.out.trans (below_of_only hg3 hgM hz3)⟩
   clear hR3 hM3 hg3
   go_wp2
   go_roundw
   case rel => exact HJ.out
   case measure => simp [intOf]; omega
  ·have c1 : (n : Int) ≤ (s : Int) := by omega
   have hres : OwnV 9 wr w.heap.size (.slice (some ⟨gR, 0, none⟩) n n) ((sortT xs).map sv) := by
    rw [← sortT_eq (runs_all HRUNS.out (by rw [HYL.out]; omega)) HPERM.out]
    exact own_blkL HBR.out hgR HYL.out (by unfold maxLen; omega)
   have HRES := Lib.hid hres
   clear hbM hol hres
   go_wp2
   go_ret
   exact ⟨_, rfl, HRES.out, HBW.out⟩
end Go.Proofs.YtbenkmihkbjgeaaGreat.Tx
/- Has, Texts, CopyTexts, Few, flag; appends of texts. -/
namespace Go.Proofs.YtbenkmihkbjgeaaGreat.Tx
open Go.RowKit Go.Proofs.YtbenkmihkbjgeaaGreat.Sh
end Go.Proofs.YtbenkmihkbjgeaaGreat.Tx
/- Each text once: plain lists. -/
namespace Go.Proofs.YtbenkmihkbjgeaaGreat.Tx
open Go.Proofs.YtbenkmihkbjgeaaGreat.Sh
abbrev Strict (l : List ByteArray) : Prop := l.Pairwise (fun a b => bl a.toList b.toList = true)
theorem strict_ext (a : List ByteArray) : ∀ b : List ByteArray, Strict a → Strict b → (∀ x, x ∈ a ↔ x ∈ b) → a = b := by
 induction a with
 | nil =>
  intro b _ _ h
  cases b with
  | nil => rfl
  | cons y b => exact absurd ((h y).2 List.mem_cons_self) (by simp)
 | cons x a ih =>
  intro b ha hb h
  cases b with
  | nil => exact absurd ((h x).1 List.mem_cons_self) (by simp)
  | cons y b =>
   obtain ⟨hxa, ha'⟩ := List.pairwise_cons.1 ha
   obtain ⟨hyb, hb'⟩ := List.pairwise_cons.1 hb
   have e : x = y := by
    rcases List.mem_cons.1 ((h x).1 List.mem_cons_self) with e | hx
    ·exact e
    ·rcases List.mem_cons.1 ((h y).2 List.mem_cons_self) with e | hy
     ·exact e.symm
     ·have h1 := hxa y hy
      have h2 := bl_asymm _ _ (hyb x hx)
      rw [h1] at h2; cases h2
   subst e
   have hno1 : x ∉ a := fun hm => by have := hxa x hm; rw [bl_irr] at this; cases this
   have hno2 : x ∉ b := fun hm => by have := hyb x hm; rw [bl_irr] at this; cases this
   rw [ih b ha' hb' (fun z => ⟨fun hz => by
    rcases List.mem_cons.1 ((h z).1 (List.mem_cons_of_mem _ hz)) with e | hz'
    ·subst e; exact absurd hz hno1
    ·exact hz', fun hz => by
    rcases List.mem_cons.1 ((h z).2 (List.mem_cons_of_mem _ hz)) with e | hz'
    ·subst e; exact absurd hz hno2
    ·exact hz'⟩)]
def ddN (ts : List ByteArray) : Nat → List ByteArray
 | 0 => []
 | k + 1 => if k = 0 ∨ (ts[k]?.map (·.toList) == ts[k - 1]?.map (·.toList)) = false then ddN ts k ++ (ts[k]?.toList) else ddN ts k
def uniqT (xs : List ByteArray) : List ByteArray := ddN (sortT xs) (sortT xs).length
theorem ddN_first (ts : List ByteArray) (h : 0 < ts.length) : ddN ts 1 = ddN ts 0 ++ [ts[0]] := by
 show (if 0 = 0 ∨ _ then _ else _) = _
 rw [if_pos (.inl rfl), List.getElem?_eq_getElem h]; rfl
theorem ddN_skip (ts : List ByteArray) (j : Nat) (h : j + 1 < ts.length) (e : ts[j + 1] = ts[j]) : ddN ts (j + 1 + 1) = ddN ts (j + 1) := by
 rw [ddN, if_neg]
 rintro (h1 | h1)
 ·omega
 ·rw [Nat.add_sub_cancel, List.getElem?_eq_getElem h, List.getElem?_eq_getElem (by omega), e] at h1
  simp at h1
theorem ddN_more (ts : List ByteArray) (j : Nat) (h : j + 1 < ts.length) (e : ts[j + 1] ≠ ts[j]) : ddN ts (j + 1 + 1) = ddN ts (j + 1) ++ [ts[j + 1]] := by
 rw [ddN, if_pos, List.getElem?_eq_getElem h]
 ·rfl
 ·right
  rw [Nat.add_sub_cancel, List.getElem?_eq_getElem h, List.getElem?_eq_getElem (by omega), beq_eq_false_iff_ne]
  intro h1
  exact e (ba_ext (by simpa using h1))
theorem ddN_len (ts : List ByteArray) (k : Nat) : (ddN ts k).length ≤ k := by
 induction k with
 | zero => simp [ddN]
 | succ k ih =>
  rw [ddN]
  split
  ·rw [List.length_append]
   have : (ts[k]?.toList).length ≤ 1 := by cases ts[k]? <;> simp
   omega
  ·omega
theorem ddN_spec {ts : List ByteArray} (hs : Sorted ts) : ∀ k, k ≤ ts.length → Strict (ddN ts k) ∧ (∀ x, x ∈ ddN ts k ↔ x ∈ ts.take k) := by
 intro k
 induction k with
 | zero => intro _; exact ⟨List.Pairwise.nil, by simp [ddN]⟩
 | succ k ih =>
  intro hk
  obtain ⟨h1, h2⟩ := ih (by omega)
  have htk : ts.take (k + 1) = ts.take k ++ [ts[k]] := List.take_succ_eq_append_getElem (by omega)
  have hle : ∀ j (hj : j < k), tle (ts[j]'(by omega)) (ts[k]'(by omega)) = true := fun j hj => List.pairwise_iff_getElem.1 hs j k (by omega) (by omega) hj
  cases k with
  | zero =>
   rw [ddN_first ts (by omega), htk]
   exact ⟨by simp [ddN], by simp [ddN]⟩
  | succ j =>
   by_cases e : ts[j + 1] = ts[j]
   ·rw [ddN_skip ts j (by omega) e]
    refine ⟨h1, fun x => ?_⟩
    rw [h2, htk, List.mem_append, List.mem_singleton]
    constructor
    ·exact .inl
    ·rintro (h | h)
     ·exact h
     ·rw [h, e, List.take_succ_eq_append_getElem (by omega)]
      exact List.mem_append_right _ (List.mem_singleton.2 rfl)
   ·rw [ddN_more ts j (by omega) e]
    have hlast : bl ts[j].toList ts[j + 1].toList = true := by
     rcases tle_cases (hle j (by omega)) with h | h
     ·exact h
     ·exact absurd h.symm e
    refine ⟨List.pairwise_append.2 ⟨h1, List.pairwise_singleton _ _, fun y hy z hz => ?_⟩, fun x => ?_⟩
    ·obtain rfl := List.mem_singleton.1 hz
     obtain ⟨i, hi, rfl⟩ := List.mem_iff_getElem.1 ((h2 y).1 hy)
     rw [List.length_take] at hi
     rw [List.getElem_take]
     rcases Nat.lt_or_ge i j with hij | hij
     ·rcases tle_cases (List.pairwise_iff_getElem.1 hs i j (by omega) (by omega) hij) with h | h
      ·exact bl_trans _ _ _ h hlast
      ·rw [h]; exact hlast
     ·obtain rfl : i = j := by omega
      exact hlast
    ·rw [List.mem_append, h2, htk, List.mem_append]
theorem uniqT_spec (xs : List ByteArray) : Strict (uniqT xs) ∧ ∀ x, x ∈ uniqT xs ↔ x ∈ xs := by
 obtain ⟨h1, h2⟩ := ddN_spec (sortT_sorted xs) _ (Nat.le_refl _)
 refine ⟨h1, fun x => ?_⟩
 have := h2 x
 rw [List.take_length] at this
 exact this.trans (sortT_perm xs).mem_iff
theorem uniqT_eq {a xs : List ByteArray} (h : Strict a) (hm : ∀ x, x ∈ a ↔ x ∈ xs) : a = uniqT xs :=
 strict_ext a _ h (uniqT_spec xs).1 (fun x => (hm x).trans ((uniqT_spec xs).2 x).symm)
theorem uniqT_same {xs ys : List ByteArray} (h : ∀ x, x ∈ xs ↔ x ∈ ys) : uniqT xs = uniqT ys := uniqT_eq (uniqT_spec xs).1 (fun x => ((uniqT_spec xs).2 x).trans (h x))
theorem uniqT_len (xs : List ByteArray) : (uniqT xs).length ≤ xs.length := by
 have := ddN_len (sortT xs) (sortT xs).length
 rw [sortT_length] at this
 unfold uniqT
 rw [sortT_length]
 exact this
end Go.Proofs.YtbenkmihkbjgeaaGreat.Tx
/- Few; wire's Unique and Merge. -/
namespace Go.Proofs.YtbenkmihkbjgeaaGreat.Tx
open Go.RowKit Go.Proofs.YtbenkmihkbjgeaaGreat.Sh
set_option maxRecDepth 100000 in
set_option maxHeartbeats 800000 in
theorem uniq_any (v : Value) (xs : List ByteArray) (w : World) (h : SlV w v (xs.map sv)) (hn : xs.length ≤ 1000000) : Calls Tryz.prog 145 #[v] w (TextsPost w (uniqT xs)) := by
 have hso := sort_any v xs w h hn
 have HSO := Lib.hid hso
 clear hso h
 go_enter Tryz.func145, Tryz.ntmps145
 go_wp2_with fail
 refine (HSO.out).mono ?_
 rintro e w1 ⟨v1, rfl, ho1, hb1⟩
 have HB1 := Lib.hid hb1
 have hsl := ho1.slv
 have hz1 := hb1.size
 obtain ⟨ts, hts⟩ : ∃ ts, sortT xs = ts := ⟨_, rfl⟩
 have hun : uniqT xs = ddN ts ts.length := by rw [← hts]; rfl
 have HUN := Lib.hid hun
 have htl : ts.length ≤ 1000000 := by rw [← hts, sortT_length]; exact hn
 rw [hts] at hsl
 obtain ⟨A, c, hv, hlc, hcm, hR⟩ := hsl.len
 rw [List.length_map] at hlc hR hv
 obtain ⟨l, hl⟩ : ∃ l, ts.length = l := ⟨_, rfl⟩
 rw [hl] at hlc htl hv
 have HR := Lib.hid hR
 have HL := Lib.hid hl
 subst hv
 unfold maxLen at hcm
 clear hl hR hsl hun hts ho1 hb1 HSO
 go_wp2_with fail
 go_loopw [4, 5, 6, 11] (fun v _ _ i wr => ∃ k : Nat, k ≤ l ∧ i = .int .i64 k ∧ OwnV 9 wr w1.heap.size v ((ddN ts k).map sv) ∧ Below w1.heap.size w1 wr) (fun _ _ _ i _ => l - (intOf i).toNat)
 case atStart => exact ⟨0, Nat.zero_le _, rfl, OwnV.nil_ _ _, Below.refl _ _⟩
 case round =>
  obtain ⟨k, hk, rfl, ho, hbw⟩ := hrel
  have hwz := hbw.size
  have HO := Lib.hid ho
  have HBW := Lib.hid hbw
  clear ho hbw
  by_cases hlt : k < l
  ·have hkl : k < ts.length := by rw [HL.out]; exact hlt
   have HRW := Lib.hid ((HR.out.below HBW.out).more HBW.out.size)
   obtain ⟨ad, rfl, hcell⟩ := texts_at HRW.out k hkl
   have hsm : (ddN ts k).length + 1 ≤ 2000000 := by have := ddN_len ts k; omega
   have z0 : (0 : Int) ≤ (k : Int) := by omega
   have z1 : (k : Int) < (l : Int) := by omega
   obtain ⟨x, hx⟩ : ∃ x, ts[k] = x := ⟨_, rfl⟩
   rw [hx] at hcell
   have hcases : (((k : Int) == 0) = true ∧ ddN ts (k + 1) = ddN ts k ++ [x]) ∨ (∃ (j : Nat) (y : ByteArray), (k : Int) - 1 = (j : Int) ∧ ((k : Int) == 0) = false ∧ wr.cell? (ad.add j) = some (.string y) ∧ j < l ∧
     (((x.toList == y.toList) = true ∧ ddN ts (k + 1) = ddN ts k) ∨ ((x.toList == y.toList) = false ∧ ddN ts (k + 1) = ddN ts k ++ [x]))) := by
    by_cases hk0 : k = 0
    ·subst hk0
     exact .inl ⟨rfl, by rw [ddN_first ts hkl, hx]⟩
    ·right
     obtain ⟨j, rfl⟩ : ∃ j, k = j + 1 := ⟨k - 1, by omega⟩
     obtain ⟨ad', he, hcell'⟩ := texts_at HRW.out j (by omega)
     injection he with he
     subst he
     refine ⟨j, ts[j]'(by omega), by omega, by rw [beq_eq_false_iff_ne]; omega, hcell', by omega, ?_⟩
     by_cases hsame : ts[j + 1] = ts[j]'(by omega)
     ·exact .inl ⟨by rw [← hx, hsame, beq_self_eq_true], ddN_skip ts j hkl hsame⟩
     ·exact .inr ⟨by rw [← hx]; exact toList_ne hsame, by rw [ddN_more ts j hkl hsame, hx]⟩
   clear hx hkl
   rcases hcases with ⟨t0, hn⟩ | ⟨j, y, hj, t0, hcy, hjl, ⟨t1, hn⟩ | ⟨t1, hn⟩⟩
   ·have hnx := Lib.hid hn
    clear hn
    go_wp2_with (at_builtin; refine append_text rfl (.tmp 27) (.tmp 29) rfl wr w1.heap.size u4 _ rfl HO.out x rfl hsm hwz ?_; intro v3 w3 ho3 hb3; have HO3 := Lib.hid ho3; have HB3 := Lib.hid hb3; clear ho3 hb3)
    go_roundw
    case rel => exact ⟨k + 1, by omega, by go_num, by rw [hnx.out]; exact HO3.out, HBW.out.trans HB3.out⟩
    case measure => simp [intOf]; omega
   ·have hnx := Lib.hid hn
    have j0 : (0 : Int) ≤ (j : Int) := by omega
    have j1 : (j : Int) < (l : Int) := by omega
    have t2 : (x.toList != y.toList) = false := by rw [bne, t1]; rfl
    clear hn
    go_wp2
    go_roundw
    case rel => exact ⟨k + 1, by omega, by go_num, by rw [hnx.out]; exact HO.out, HBW.out⟩
    case measure => simp [intOf]; omega
   ·have hnx := Lib.hid hn
    have j0 : (0 : Int) ≤ (j : Int) := by omega
    have j1 : (j : Int) < (l : Int) := by omega
    have t2 : (x.toList != y.toList) = true := by rw [bne, t1]; rfl
    clear hn
    go_wp2_with (at_builtin; refine append_text rfl (.tmp 27) (.tmp 29) rfl wr w1.heap.size u4 _ rfl HO.out x rfl hsm hwz ?_; intro v3 w3 ho3 hb3; have HO3 := Lib.hid ho3; have HB3 := Lib.hid hb3; clear ho3 hb3)
    go_roundw
    case rel => exact ⟨k + 1, by omega, by go_num, by rw [hnx.out]; exact HO3.out, HBW.out.trans HB3.out⟩
    case measure => simp [intOf]; omega
  ·obtain rfl : k = l := by omega
   have hres := Lib.hid (HO.out.base hz1)
   go_wp2
   go_ret
   refine ⟨u4, rfl, ?_, HB1.out.trans (HBW.out.mono hz1)⟩
   rw [HUN.out, HL.out]
   exact hres.out
set_option maxRecDepth 100000 in
set_option maxHeartbeats 800000 in
theorem merge_any (v v' : Value) (xs ys : List ByteArray) (w : World) (h : SlV w v (xs.map sv)) (h' : SlV w v' (ys.map sv)) (hn : xs.length ≤ 400000) (hn' : ys.length ≤ 400000) : Calls Tryz.prog 97 #[v, v'] w (TextsPost w (uniqT (xs ++ ys))) := by
 obtain ⟨A, c, rfl, hlc, hcm, hR⟩ := h.len
 obtain ⟨A', c', rfl, hlc', hcm', hR'⟩ := h'.len
 rw [List.length_map] at hlc hR hlc' hR' ⊢
 rw [List.length_map]
 unfold maxLen at hcm hcm'
 obtain ⟨l, hl⟩ : ∃ l, xs.length = l := ⟨_, rfl⟩
 obtain ⟨l', hl'⟩ : ∃ l', ys.length = l' := ⟨_, rfl⟩
 rw [hl] at hlc hR hn ⊢
 rw [hl'] at hlc' hR' hn' ⊢
 have HR := Lib.hid hR
 have HR' := Lib.hid hR'
 have HL := Lib.hid hl
 have HL' := Lib.hid hl'
 have n0 : (0 : Int) ≤ (l : Int) := by omega
 have n1 : (l : Int) ≤ 400000 := by omega
 have n2 : (0 : Int) ≤ (l' : Int) := by omega
 have n3 : (l' : Int) ≤ 400000 := by omega
 have hmk : ∀ w : World, (Instr.makeSlice 23 (.int .i64 0) (.int .i64 ((l : Int) + (l' : Int)))).run Tryz.prog w = .ok (.slice (some ⟨w.heap.size, 0, none⟩) 0 (l + l')) (w.alloc (.cells (madeCells #[.string ⟨#[]⟩] (l + l')) 9)) := fun w => by
  have := make_texts 0 (l + l') (Nat.zero_le _) (by omega) w
  rwa [Int.natCast_add] at this
 have hown : OwnV 9 (w.alloc (.cells (madeCells #[.string ⟨#[]⟩] (l + l')) 9)) w.heap.size (.slice (some ⟨w.heap.size, 0, none⟩) 0 (l + l')) ([].map sv) :=
  World.ownsRow_made w _ (l + l') (Nat.le_refl _) (by unfold maxLen; omega) (by rw [size_madeCells]; omega)
 have hb0 : Below w.heap.size w (w.alloc (.cells (madeCells #[.string ⟨#[]⟩] (l + l')) 9)) := (Below.refl _ _).alloc (Nat.le_refl _) _
 have hr0 := (HR.out.below hb0).more hb0.size
 have HR0 := Lib.hid hr0
 have HOWN := Lib.hid hown
 have HB0 := Lib.hid hb0
 have hsm : ([] : List ByteArray).length + l ≤ 2000000 := by simp; omega
 have hsm2 : ([] ++ xs).length + l' ≤ 2000000 := by rw [List.nil_append, HL.out]; omega
 have hz : w.heap.size ≤ (w.alloc (.cells (madeCells #[.string ⟨#[]⟩] (l + l')) 9)).heap.size := by simp
 clear hl hl' h h' hR hR' hown hb0 hr0
 go_enter Tryz.func97, Tryz.ntmps97
 go_wp2_with (first
  | (at_builtin; refine append_texts rfl (.tmp 15) (.tmp 16) rfl w3 w.heap.size v3 ([] ++ xs) rfl HO3.out _ A' l' c' ys rfl HRR.out hsm2 hz3 ?_; intro v4 w4 ho4 hb4; have HO4 := Lib.hid ho4; have HB4 := Lib.hid (HB3.out.trans hb4); clear ho4 hb4)
  | (at_builtin; refine append_texts rfl (.tmp 12) (.tmp 13) rfl _ w.heap.size (.slice (some ⟨w.heap.size, 0, none⟩) 0 (l + l')) [] rfl HOWN.out _ A l c xs rfl HR0.out hsm hz ?_; intro v3 w3 ho3 hb3; have HO3 := Lib.hid ho3; have HB3 := Lib.hid (HB0.out.trans hb3); have hz3 := HB3.out.size; have HRR := Lib.hid (HR'.out.below HB3.out); clear ho3 hb3))
 have hsl := HO4.out.slv
 have hz4 := HB4.out.size
 have hun := uniq_any v4 _ w4 hsl (by rw [List.nil_append, List.length_append, HL.out, HL'.out]; omega)
 rw [List.nil_append] at hun
 refine hun.mono ?_
 rintro e w5 ⟨v5, rfl, ho5, hb5⟩
 have HO5 := Lib.hid (ho5.base hz4)
 have HB5 := Lib.hid (HB4.out.trans (hb5.mono hz4))
 clear hun hsl ho5 hb5
 go_wp2
 go_ret
 exact ⟨v5, rfl, HO5.out, HB5.out⟩
end Go.Proofs.YtbenkmihkbjgeaaGreat.Tx
/- The reference's Sort and Unique: texts put where they belong. -/
namespace Go.Proofs.YtbenkmihkbjgeaaGreat.Tx
open Go.RowKit Go.Proofs.YtbenkmihkbjgeaaGreat.Sh
theorem OwnV.front {E : TypeId} {w : World} {B n c : Nat} {A : Option Addr} {vs : List Value} (h : OwnV E w B (.slice A n c) vs) (k : Nat) (hk : k ≤ vs.length) (hA : A ≠ none) : OwnV E w B (.slice A k c) (vs.take k) := by
 rcases h.blk with ⟨he, _⟩ | ⟨g, c', cur, he, hb, _, hg, hc, hm, hs, ht⟩
 ·injection he with e1 _ _; exact absurd e1 hA
 ·injection he with e1 e2 e3
  subst e1 e3
  have el : k = (vs.take k).length := by rw [List.length_take]; omega
  conv => arg 4; rw [el]
  refine OwnV.mk hb hg (by rw [List.length_take]; omega) hm hs ?_
  rw [List.length_take, Nat.min_eq_left hk, ← ht, List.take_take, Nat.min_eq_left hk]
theorem ins_perm (out : List ByteArray) (x : ByteArray) (k : Nat) : (out.take k ++ ([x] ++ out.drop k)).Perm (out ++ [x]) := by
 have h1 : (out.take k ++ ([x] ++ out.drop k)).Perm ([x] ++ (out.take k ++ out.drop k)) := by
  rw [← List.append_assoc, ← List.append_assoc]
  exact (List.perm_append_comm (l₁ := out.take k) (l₂ := [x])).append_right _
 rw [List.take_append_drop] at h1
 exact h1.trans List.perm_append_comm
set_option maxRecDepth 100000 in
theorem texts_front (A : Option Addr) (l c k : Nat) (hkc : k ≤ c) (w : World) : (Instr.slice 23 (.slice A l c) none (some (.int .i64 (k : Int))) none).run Tryz.prog w = .ok (.slice A k c) w := by
 rw [run_slice_h w 23 A l c Tryz.underlying23 .i64 k (by omega) (by omega), size_str]
 simp only [Result.andThen_ok, sliced, Int.toNat_natCast]
 by_cases h : c = 0
 ·subst h; simp
 ·have e : A.map (fun a => a.add 0) = A := by cases A <;> simp [Addr.add]
  simp [h, e]
set_option maxRecDepth 100000 in
theorem texts_back (A : Option Addr) (l c k : Nat) (hkl : k ≤ l) (w : World) : (Instr.slice 23 (.slice A l c) (some (.int .i64 (k : Int))) none none).run Tryz.prog w = .ok (.slice (if c = k then A else A.map (·.add (k * 1))) (l - k) (c - k)) w := by
 rw [run_slice_l w 23 A l c Tryz.underlying23 .i64 k (by omega) (by omega), size_str]
 rfl
theorem ins_own {W W1 : World} {B p co n : Nat} {Ao : Option Addr} {out : List ByteArray} (ho : OwnV 9 W B (.slice Ao n co) (out.map sv)) (hn : out.length = n) (hp : p ≤ n) (hW1 : Below W.heap.size W W1) :
  OwnV 9 W1 B (.slice Ao p co) ((out.take p).map sv) := by
 have h1 := ho.below hW1
 cases Ao with
 | none =>
  have hn0 : n = 0 ∧ co = 0 := by
   rcases ho.blk with ⟨he, _⟩ | ⟨_, _, _, he, _⟩
   ·injection he with _ e2 e3; exact ⟨e2, e3⟩
   ·injection he with e1 _ _; cases e1
  obtain ⟨rfl, rfl⟩ := hn0
  obtain rfl : p = 0 := by omega
  rw [List.take_zero]
  exact OwnV.nil_ _ _
 | some a =>
  have := h1.front p (by rw [List.length_map]; omega) (by intro e; cases e)
  rwa [List.map_take]
theorem one_more (x : ByteArray) (l : List ByteArray) : ∀ u ∈ [sv x] ++ l.map sv, u.oneCell' = true := fun u hu => sv_one (x :: l) u (by rw [List.map_cons]; exact hu)
theorem row_one (W : World) (x : ByteArray) : (W.alloc (.cells #[.string x] 9)).ownsRow W.heap.size 9 1 (.slice (some ⟨W.heap.size, 0, none⟩) 1 1) 1 [sv x] :=
 ⟨rfl, Or.inr ⟨W.heap.size, 1, #[.string x], rfl, Nat.le_refl _, heap_alloc_new W _, Nat.le_refl _, by unfold maxLen; omega, by simp, by simp [sv]⟩⟩
theorem row_of {w : World} {B : Nat} {v : Value} {ts : List ByteArray} (h : OwnV 9 w B v (ts.map sv)) (n : Nat) (hn : ts.length = n) : w.ownsRow B 9 1 v n (ts.map sv) := by unfold OwnV at h; rwa [List.length_map, hn] at h
theorem row_slice {w : World} {B n : Nat} {v : Value} {vs : List Value} (h : w.ownsRow B 9 1 v n vs) : ∃ A c, v = .slice A n c ∧ Reads w w.heap.size 1 A n vs := by
 have hl : vs.length = n := by have := h.1; omega
 subst hl
 have h' : OwnV 9 w B v vs := h
 obtain ⟨A, c, hv, _, _, hr⟩ := h'.slv.len
 exact ⟨A, c, hv, hr⟩
theorem row_done {w : World} {B p m : Nat} {v : Value} {out : List ByteArray} {x : ByteArray} (hp : (out.take p).length = p) (hm : 1 + (out.drop p).length = m) (h : w.ownsRow B 9 1 v (p + m) ((out.take p).map sv ++ ([sv x] ++ (out.drop p).map sv))) : OwnV 9 w B v ((out.take p ++ ([x] ++ out.drop p)).map sv) := by
 unfold OwnV
 rw [List.length_map, List.length_append, hp, List.length_append, List.length_singleton, hm, List.map_append, List.map_append]
 exact h
end Go.Proofs.YtbenkmihkbjgeaaGreat.Tx
