/- Texts put together: Ts4. -/
import Derived.Test.YtecpedecgcaeoaaQg18
import Derived.Deep.DeepCutAuto
/- mergePairs. -/
namespace Go.Proofs.Ytecpedecgcaeoaa.Tx
open Go.RowKit Go.Proofs.Ytecpedecgcaeoaa.Sh

theorem at_all (xs : List ByteArray) (o : Nat) : At (xs.map sv) o (xs.drop o) := by
  intro j s h
  rw [List.getElem?_drop] at h
  rw [List.getElem?_map, h]
  rfl
theorem at_take {F : List Value} {o : Nat} {xs : List ByteArray} (h : At F o xs) (m : Nat) : At F o (xs.take m) := by
  intro j s hs
  rw [List.getElem?_take] at hs
  by_cases hj : j < m
  · rw [if_pos hj] at hs; exact h j s hs
  · rw [if_neg hj] at hs; cases hs

theorem size_str (w : World) : (sizeOf (Try.prog.elem 23)).run Try.prog w = .ok 1 w := by kernel_rfl
set_option maxRecDepth 100000 in
theorem slice_txt (g n lo hi : Nat) (a b : Int) (ha : a = (lo : Int)) (hb : b = (hi : Int)) (h1 : lo ≤ hi) (h2 : hi ≤ n) (w : World) :
    (Instr.slice 23 (.slice (some ⟨g, 0, none⟩) n n) (some (.int .i64 a)) (some (.int .i64 b)) none).run Try.prog w = .ok (.slice (some ⟨g, if n = lo then 0 else lo, none⟩) (hi - lo) (n - lo)) w := by
  subst ha hb
  rw [run_slice_lh w 23 (some ⟨g, 0, none⟩) n n Try.underlying23 .i64 .i64 (lo : Int) (hi : Int) (by omega) (by omega) (by omega), size_str]
  simp only [Result.andThen_ok, Int.toNat_natCast, sliced]
  by_cases h : n = lo
  · subst h
    simp
  · simp [h, Addr.add_mid]
/-- What mergePairs' round is told. -/
def MP (w : World) (gt gf n s : Nat) (xs : List ByteArray) (i : Value) (wr : World) : Prop :=
  ∃ (k : Nat) (done : List ByteArray) (rest : List Value), i = .int .i64 k ∧ k ≤ n + 2 * s ∧ done.length = min k n ∧ done.length + rest.length = n ∧ done ++ passL s (xs.drop k) = passL s xs ∧ BlkL wr gf (xs.map sv) ∧ BlkL wr gt (done.map sv ++ rest) ∧ w.grownBy wr (some gt)

theorem MP.next {w w' : World} {gt gf n s k L : Nat} {xs done : List ByteArray} {rest : List Value} (hk : k < n) (hs : 0 < s) (hn : xs.length = n) (hdl : done.length = min k n) (hrl : done.length + rest.length = n) (hp : done ++ passL s (xs.drop k) = passL s xs) (hL : L = min (2 * s) (n - k))
    (hF : BlkL w' gf (xs.map sv)) (hT : BlkL w' gt (done.map sv ++ (mergeL ((xs.drop k).take s) ((xs.drop (k + s)).take s)).map sv ++ rest.drop L)) (hg : w.grownBy w' (some gt)) : MP w gt gf n s xs (.int .i64 ((k + 2 * s : Nat) : Int)) w' := by
  have hml : (mergeL ((xs.drop k).take s) ((xs.drop (k + s)).take s)).length = L := by
    rw [mergeL_length, List.length_take, List.length_take, List.length_drop, List.length_drop]; omega
  refine ⟨k + 2 * s, done ++ mergeL ((xs.drop k).take s) ((xs.drop (k + s)).take s), rest.drop L, rfl, by omega, by rw [List.length_append, hml]; omega, by rw [List.length_append, hml, List.length_drop]; omega, ?_, hF, by rw [List.map_append]; exact hT, hg⟩
  rw [← hp, passL_cons (xs := xs.drop k) (by rw [List.length_drop]; omega) hs, List.drop_drop, List.drop_drop, List.append_assoc]
/-- The call of a round. -/
theorem mpairs_call {gt gf n s k L m1 la lb ca cb ct o3 : Nat} {xs done : List ByteArray} {rest : List Value} {wr : World} (hne : gt ≠ gf) (hk : k < n) (hn : xs.length = n) (hnm : n ≤ 1000000) (hdl : done.length = min k n) (hrl : done.length + rest.length = n) (hL : L = min (2 * s) (n - k))
    (hla : la = min s (n - k)) (hlb : lb = min s (n - (k + s))) (hca : la ≤ ca) (hcam : ca ≤ maxLen) (hcb : lb ≤ cb) (hcbm : cb ≤ maxLen) (hct : L ≤ ct) (hctm : ct ≤ maxLen) (hm1 : m1 = min (k + s) n) (ho3 : (if n = m1 then 0 else m1) = o3)
    (hF : BlkL wr gf (xs.map sv)) (hT : BlkL wr gt (done.map sv ++ rest)) :
    Calls Try.prog 53 #[.slice (some ⟨gt, k, none⟩) L ct, .slice (some ⟨gf, k, none⟩) la ca, .slice (some ⟨gf, o3, none⟩) lb cb] wr fun e w' => e = .returned (.tuple #[]) ∧ BlkL w' gf (xs.map sv) ∧ BlkL w' gt (done.map sv ++ (mergeL ((xs.drop k).take s) ((xs.drop (k + s)).take s)).map sv ++ rest.drop L) ∧ wr.grownBy w' (some gt) := by
  have h1 : ((xs.drop k).take s).length = la := by rw [List.length_take, List.length_drop]; omega
  have h2 : ((xs.drop (k + s)).take s).length = lb := by rw [List.length_take, List.length_drop]; omega
  have h := mruns_any gt gf L k k (k + s) ca cb ct ⟨gf, k, none⟩ ⟨gf, o3, none⟩ (done.map sv) (rest.take L) (rest.drop L) (xs.map sv) ((xs.drop k).take s) ((xs.drop (k + s)).take s) wr hne (by rw [List.length_map]; omega) (by rw [List.length_take]; omega) (by rw [h1, h2]; omega) hct hctm
    (by rw [h1]; exact hca) hcam (by rw [h2]; exact hcb) hcbm (fun _ => rfl) (fun h0 => by rw [h2] at h0; rw [← ho3, if_neg (by omega)]; congr 1; omega) (at_take (at_all xs k) s) (at_take (at_all xs (k + s)) s) hF (by rw [List.append_assoc, List.take_append_drop]; exact hT)
  rw [h1, h2] at h
  exact h

set_option maxRecDepth 100000 in
set_option maxHeartbeats 3200000 in
theorem mpairs_any (gt gf n s : Nat) (old : List Value) (xs : List ByteArray) (w : World) (hne : gt ≠ gf) (hs : 0 < s) (hsm : s ≤ 2000000) (hn : xs.length = n) (hnm : n ≤ 1000000) (ho : old.length = n) (hF : BlkL w gf (xs.map sv)) (hT : BlkL w gt old) :
    Calls Try.prog 47 #[.slice (some ⟨gt, 0, none⟩) n n, .slice (some ⟨gf, 0, none⟩) n n, .int .i64 (s : Int)] w fun e w' => e = .returned (.tuple #[]) ∧ BlkL w' gf (xs.map sv) ∧ BlkL w' gt ((passL s xs).map sv) ∧ w.grownBy w' (some gt) := by
  have hst : MP w gt gf n s xs (.int .i64 ((0 : Nat) : Int)) w := ⟨0, [], old, rfl, by omega, by simp, by simpa using ho, by simp, hF, by simpa using hT, World.grownBy.refl w _⟩
  have HST := Lib.hid hst
  have HNE := Lib.hid hne
  have HN := Lib.hid hn
  clear hst hne hn ho hF hT
  have s0 : (0 : Int) < (s : Int) := by omega
  have s1 : (s : Int) ≤ 2000000 := by omega
  have n0 : (0 : Int) ≤ (n : Int) := by omega
  have n1 : (n : Int) ≤ 1000000 := by omega
  go_enter Try.func47, Try.ntmps47
  go_wp2_with fail
  go_loopw [6] (fun i wr => MP w gt gf n s xs i wr) (fun i _ => n - (intOf i).toNat)
  case atStart => exact HST.out
  case round =>
    clear HST
    obtain ⟨k, done, rest, rfl, hk, hdl, hrl, hp, hF, hT, hg⟩ := hrel
    by_cases hlt : k < n
    · have k0 : (0 : Int) ≤ (k : Int) := by omega
      have k1 : (k : Int) < (n : Int) := by omega
      have HF := Lib.hid hF
      have HT := Lib.hid hT
      have HG := Lib.hid hg
      have HP := Lib.hid hp
      have HDL := Lib.hid hdl
      have HRL := Lib.hid hrl
      clear hF hT hg hp hdl hrl hk
      have hcases : (n : Int) < (k : Int) + (s : Int) ∨ ((k : Int) + (s : Int) ≤ (n : Int) ∧ (n : Int) < (k : Int) + (s : Int) + (s : Int)) ∨ (k : Int) + (s : Int) + (s : Int) ≤ (n : Int) := by omega
      rcases hcases with d1 | ⟨d1, d2⟩ | d1
      · have h1 := slice_txt gt n k n (k : Int) (n : Int) rfl (by omega) (by omega) (by omega)
        have h2 := slice_txt gf n k n (k : Int) (n : Int) rfl (by omega) (by omega) (by omega)
        have h3 := slice_txt gf n n n (n : Int) (n : Int) (by omega) (by omega) (by omega) (by omega)
        rw [if_neg (show ¬ n = k by omega)] at h1 h2
        obtain ⟨o3, ho3⟩ : ∃ o3, (if n = n then 0 else n) = o3 := ⟨_, rfl⟩
        rw [ho3] at h3
        have HO3 := Lib.hid ho3
        clear ho3
        go_wp2_with fail
        go_still_tail 12, (by kernel_rfl)
        change wpList _ _ _ _ _ wr.drew
        go_wp2_with fail
        refine (mpairs_call (s := s) (m1 := n) HNE.out hlt HN.out hnm HDL.out HRL.out (by omega) (by omega) (by omega) (by omega) (by unfold maxLen; omega) (by omega) (by unfold maxLen; omega) (by omega) (by unfold maxLen; omega) (by omega) (by first | exact HO3.out | simpa using HO3.out) HF.out.drew HT.out.drew).mono ?_
        rintro e w2 ⟨rfl, hF2, hT2, hg2⟩
        have hmp := Lib.hid (MP.next hlt hs HN.out HDL.out HRL.out HP.out (by omega) hF2 hT2 (only_then (only_drew HG.out) hg2))
        clear hF2 hT2 hg2 h1 h2 h3
        go_wp2
        go_roundw
        case rel => exact hmp.out
        case measure => simp [intOf]; omega
      · have h1 := slice_txt gt n k n (k : Int) (n : Int) rfl (by omega) (by omega) (by omega)
        have h2 := slice_txt gf n k (k + s) (k : Int) ((k : Int) + (s : Int)) rfl (by omega) (by omega) (by omega)
        have h3 := slice_txt gf n (k + s) n ((k : Int) + (s : Int)) (n : Int) (by omega) (by omega) (by omega) (by omega)
        rw [if_neg (show ¬ n = k by omega)] at h1 h2
        obtain ⟨o3, ho3⟩ : ∃ o3, (if n = (k + s) then 0 else (k + s)) = o3 := ⟨_, rfl⟩
        rw [ho3] at h3
        have HO3 := Lib.hid ho3
        clear ho3
        go_wp2_with fail
        go_still_tail 12, (by kernel_rfl)
        change wpList _ _ _ _ _ wr.drew
        go_wp2_with fail
        refine (mpairs_call (s := s) (m1 := (k + s)) HNE.out hlt HN.out hnm HDL.out HRL.out (by omega) (by omega) (by omega) (by omega) (by unfold maxLen; omega) (by omega) (by unfold maxLen; omega) (by omega) (by unfold maxLen; omega) (by omega) (by first | exact HO3.out | simpa using HO3.out) HF.out.drew HT.out.drew).mono ?_
        rintro e w2 ⟨rfl, hF2, hT2, hg2⟩
        have hmp := Lib.hid (MP.next hlt hs HN.out HDL.out HRL.out HP.out (by omega) hF2 hT2 (only_then (only_drew HG.out) hg2))
        clear hF2 hT2 hg2 h1 h2 h3
        go_wp2
        go_roundw
        case rel => exact hmp.out
        case measure => simp [intOf]; omega
      · have d0 : (k : Int) + (s : Int) ≤ (n : Int) := by omega
        have h1 := slice_txt gt n k (k + s + s) (k : Int) ((k : Int) + (s : Int) + (s : Int)) rfl (by omega) (by omega) (by omega)
        have h2 := slice_txt gf n k (k + s) (k : Int) ((k : Int) + (s : Int)) rfl (by omega) (by omega) (by omega)
        have h3 := slice_txt gf n (k + s) (k + s + s) ((k : Int) + (s : Int)) ((k : Int) + (s : Int) + (s : Int)) (by omega) (by omega) (by omega) (by omega)
        rw [if_neg (show ¬ n = k by omega)] at h1 h2
        obtain ⟨o3, ho3⟩ : ∃ o3, (if n = (k + s) then 0 else (k + s)) = o3 := ⟨_, rfl⟩
        rw [ho3] at h3
        have HO3 := Lib.hid ho3
        clear ho3
        go_wp2_with fail
        go_still_tail 12, (by kernel_rfl)
        change wpList _ _ _ _ _ wr.drew
        go_wp2_with fail
        refine (mpairs_call (s := s) (m1 := (k + s)) HNE.out hlt HN.out hnm HDL.out HRL.out (by omega) (by omega) (by omega) (by omega) (by unfold maxLen; omega) (by omega) (by unfold maxLen; omega) (by omega) (by unfold maxLen; omega) (by omega) (by first | exact HO3.out | simpa using HO3.out) HF.out.drew HT.out.drew).mono ?_
        rintro e w2 ⟨rfl, hF2, hT2, hg2⟩
        have hmp := Lib.hid (MP.next hlt hs HN.out HDL.out HRL.out HP.out (by omega) hF2 hT2 (only_then (only_drew HG.out) hg2))
        clear hF2 hT2 hg2 h1 h2 h3
        go_wp2
        go_roundw
        case rel => exact hmp.out
        case measure => simp [intOf]; omega
    · have hd : xs.drop k = [] := List.drop_of_length_le (by have := HN.out; omega)
      rw [hd, passL_nil, List.append_nil] at hp
      have hr : rest = [] := List.eq_nil_of_length_eq_zero (by omega)
      rw [hr, List.append_nil, hp] at hT
      have HF := Lib.hid hF
      have HT := Lib.hid hT
      have HG := Lib.hid hg
      clear hF hT hg hp hdl hrl hr hd
      go_wp2_with fail
      go_end0
      exact ⟨rfl, HF.out, HT.out, HG.out⟩
end Go.Proofs.Ytecpedecgcaeoaa.Tx
