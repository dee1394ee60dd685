/- Chapter 14: Text and Split, both sides. -/
import Derived.Test.YtbejgljljjjjcaaLn6
import Derived.Test.YtbejgljljjjjcaaLnR
import Derived.Lib.BytesEntry
import Derived.Shelf.Bytes.SlIndexAt
import Derived.Lib.IndexLaws
set_option linter.unusedVariables false
set_option linter.unusedSimpArgs false
namespace Go.Proofs.Ytbejgljljjjjcaa.Ln
open Go.RowKit Go.Proofs.Ytbejgljljjjjcaa.Sh Go.Proofs.Ytbejgljljjjjcaa.Tx

theorem bytesOf_bi (bs : List UInt8) : Lib.bytesOf (bs.map bi) = bs := by
  unfold Lib.bytesOf
  rw [List.map_map]
  refine (List.map_congr_left fun u _ => ?_).trans (List.map_id _)
  show (bi u).toNat.toUInt8 = u
  rw [bi_nat]
  simp
set_option maxRecDepth 100000 in
set_option maxHeartbeats 1600000 in
theorem idx_any (v : Value) (bs : List UInt8) (g : UInt8) (c : Int) (hc : bi g = c) (w : World) (h : SlV w v (bs.map bv)) : Calls Try.prog 35 #[v, .int .u8 c] w fun e w' => e = .returned (.int .i64 (Lib.indexByte bs g)) ∧ w = w' := by
  obtain ⟨A, cc, rfl, hl, hm, hr⟩ := h.len
  rw [List.length_map] at h hl ⊢
  have hcu : c.toNat.toUInt8 = g := by
    rw [← hc, bi_nat]
    simp
  have key : (Extern.BytealgIndexByte.indexByte #[.slice A bs.length cc, .int .u8 c]).run Try.prog w = .ok (.int .i64 (Lib.indexByte bs g)) w := by
    rcases A with _ | ad
    · have h0 : bs = [] := by
        obtain ⟨A', c', he, _, _, _, hn⟩ := h
        injection he with e1 e2 e3
        subst e1
        simpa using hn rfl
      subst h0
      have := Lib.run_indexByteNil (P := Try.prog) w 0 cc c
      simpa [Lib.indexByte] using this
    · have h1 := Lib.run_indexByteAt (P := Try.prog) w ad bs.length cc (bs.map bi) (by rw [List.length_map]) (fun i hi => by
        obtain ⟨_, ea, hcell⟩ := byte_cell h i bs[i] (List.getElem?_eq_getElem hi)
        injection ea with ea
        subst ea
        rw [hcell, List.getD_eq_getElem?_getD, List.getElem?_map, List.getElem?_eq_getElem hi]
        rfl) c
      rw [bytesOf_bi, hcu] at h1
      exact h1
  obtain ⟨r, hr2⟩ : ∃ r, Lib.indexByte bs g = r := ⟨_, rfl⟩
  obtain ⟨n, hn⟩ : ∃ n, bs.length = n := ⟨_, rfl⟩
  rw [hr2, hn] at key
  rw [hr2, hn]
  clear h hl hm hr hcu hr2 hn hc
  go_enter Try.func35, Try.ntmps35
  go_wp2
  rw [run_callFunc_extern Try.func39 (by kernel_rfl) (by kernel_rfl) (by kernel_rfl) (e := Extern.BytealgIndexByte.indexByte) (by kernel_rfl), key]
  simp only [Result.andThen]
  rw [Oper.upon_value]
  go_wp2
  go_ret
  exact ⟨rfl, rfl⟩
def textB (bs : List UInt8) : Bool := decide ((0 : UInt8) ∉ bs)
theorem idx_cases (bs : List UInt8) (g : UInt8) : (Lib.indexByte bs g = -1 ∧ g ∉ bs) ∨ ∃ o : Nat, Lib.indexByte bs g = o ∧ bs[o]? = some g ∧ ∀ k : Nat, k < o → bs[k]? ≠ some g := by
  rcases Int.lt_or_le (Lib.indexByte bs g) 0 with h | h
  · have h1 := Lib.indexByte_ge bs g
    have h2 : Lib.indexByte bs g = -1 := by omega
    refine .inl ⟨h2, fun hm => ?_⟩
    obtain ⟨k, hk⟩ := List.getElem?_of_mem hm
    exact Lib.indexByte_none h2 k hk
  · obtain ⟨o, ho⟩ := Int.eq_ofNat_of_zero_le h
    obtain ⟨h1, h2⟩ := Lib.indexByte_some ho
    exact .inr ⟨o, ho, h1, h2⟩
theorem bi0 : bi 0 = 0 := by rw [bi_nat]; rfl
theorem bi10 : bi 10 = 10 := by rw [bi_nat]; rfl
set_option maxRecDepth 100000 in
set_option maxHeartbeats 1600000 in
theorem text_any (v : Value) (bs : List UInt8) (w : World) (h : SlV w v (bs.map bv)) : Calls Try.prog 19 #[v] w fun e w' => e = .returned (.bool (textB bs)) ∧ w = w' := by
  have HI := Lib.hid (idx_any v bs 0 0 bi0 w h)
  have hT : textB bs = decide (Lib.indexByte bs 0 < 0) := by
    unfold textB
    rcases idx_cases bs 0 with ⟨h1, h2⟩ | ⟨o, h1, h2, _⟩
    · rw [h1, decide_eq_true h2]; rfl
    · rw [h1, decide_eq_false (fun hm => hm (List.mem_of_getElem? h2)), decide_eq_false (by omega)]
  obtain ⟨r, hr⟩ : ∃ r, Lib.indexByte bs 0 = r := ⟨_, rfl⟩
  rw [hr] at HI hT
  rw [hT]
  clear hT hr h
  go_enter Try.func19, Try.ntmps19
  go_wp2_with fail
  refine HI.out.mono ?_
  rintro e w' ⟨rfl, rfl⟩
  go_wp2_with fail
  go_ret
  exact ⟨rfl, rfl⟩
set_option maxRecDepth 100000 in
set_option maxHeartbeats 1600000 in
theorem rtext_any (v : Value) (bs : List UInt8) (w : World) (h : SlV w v (bs.map bv)) : Calls Try.prog 32 #[v] w fun e w' => e = .returned (.bool (textB bs)) ∧ w = w' := by
  obtain ⟨A, c, rfl, hl, hm, _⟩ := h.len
  rw [List.length_map] at h hl ⊢
  unfold maxLen at hm
  have H := Lib.hid h
  obtain ⟨n, hn⟩ : ∃ n, bs.length = n := ⟨_, rfl⟩
  rw [hn] at H hl ⊢
  have HN := Lib.hid hn
  obtain ⟨t, ht⟩ : ∃ t, textB bs = t := ⟨_, rfl⟩
  rw [ht]
  have HT := Lib.hid ht
  clear h hn ht
  go_enter Try.func32, Try.ntmps32
  go_wp2_with fail
  go_loop [3] (fun x => ∃ k : Nat, k ≤ n ∧ x = .int .i64 (k : Int) ∧ (0 : UInt8) ∉ bs.take k) (fun x => n - (intOf x).toNat)
  case atStart => exact ⟨0, Nat.zero_le _, rfl, by simp⟩
  case round =>
    obtain ⟨k, hk, rfl, hno⟩ := hrel
    have HNO := Lib.hid hno
    clear hno
    have z0 : (0 : Int) ≤ (k : Int) := by omega
    by_cases hlt : k < n
    · have z1 : (k : Int) < (n : Int) := by omega
      have hkl : k < bs.length := by rw [HN.out]; exact hlt
      obtain ⟨x, hx⟩ : ∃ x, bs[k]? = some x := ⟨_, List.getElem?_eq_getElem hkl⟩
      obtain ⟨ad, rfl, x0⟩ := byte_cell H.out k x hx
      have HX := Lib.hid hx
      clear hkl hx
      by_cases he : x = 0
      · subst he
        have htf : t = false := by
          rw [← HT.out]
          exact decide_eq_false (fun hm => hm (List.mem_of_getElem? HX.out))
        subst htf
        rw [bi0] at x0
        go_wp2_with fail
        go_ret
        exact ⟨rfl, rfl⟩
      · have e1 : (bi x == 0) = false := by rw [beq_eq_false_iff_ne, ← bi0]; exact fun e => he (bi_inj e)
        have e2 : ¬ bi x = 0 := by rw [← bi0]; exact fun e => he (bi_inj e)
        go_wp2_with fail
        go_round
        case rel =>
          refine ⟨k + 1, by omega, by go_num, ?_⟩
          rw [List.take_add_one, HX.out]
          intro hm
          rcases List.mem_append.1 hm with hm | hm
          · exact HNO.out hm
          · simp at hm
            exact he hm.symm
        case measure => simp [intOf]; omega
    · obtain rfl : k = n := by omega
      have htt : t = true := by
        rw [← HT.out]
        refine decide_eq_true ?_
        have := HNO.out
        rwa [List.take_of_length_le (by rw [HN.out]; exact Nat.le_refl _)] at this
      subst htt
      go_wp2_with fail
      go_ret
      exact ⟨rfl, rfl⟩
/-- One line at the head of what is left. -/
theorem spl_step {rest : List UInt8} (h : rest ≠ []) : ∃ sz : Nat, 0 < sz ∧ sz ≤ rest.length ∧ splL rest = rest.take sz :: splL (rest.drop sz) ∧ ((Lib.indexByte rest 10 = -1 ∧ sz = rest.length) ∨ Lib.indexByte rest 10 = (sz : Int) - 1) := by
  rcases idx_cases rest 10 with ⟨h1, h2⟩ | ⟨o, h1, h2, h3⟩
  · refine ⟨rest.length, List.length_pos_iff.2 h, Nat.le_refl _, ?_, .inl ⟨h1, rfl⟩⟩
    rw [List.take_of_length_le (Nat.le_refl _), List.drop_of_length_le (Nat.le_refl _), spl_none (fun c hc e => h2 (e ▸ hc)), if_neg h]
    rfl
  · have ho := (List.getElem?_eq_some_iff.1 h2).1
    refine ⟨o + 1, Nat.succ_pos _, ho, ?_, .inr (by omega)⟩
    have hx : rest[o] = 10 := by rw [List.getElem?_eq_getElem ho] at h2; injection h2
    have hcut : rest = rest.take o ++ 10 :: rest.drop (o + 1) := by
      rw [← hx, ← List.drop_eq_getElem_cons ho, List.take_append_drop]
    have hno : ∀ c ∈ rest.take o, c ≠ 10 := by
      intro c hc e
      obtain ⟨k, hk⟩ := List.getElem?_of_mem hc
      rw [List.getElem?_take] at hk
      split at hk
      · exact h3 k (by omega) (e ▸ hk)
      · cases hk
    have := spl_first (rest.drop (o + 1)) hno
    rw [← hcut] at this
    rw [this, List.take_add_one, h2]
    rfl
theorem spl_cut {bs : List UInt8} {f k : Nat} (hf : f ≤ k) (hk : k < bs.length) (hno : ∀ j, f ≤ j → j < k → bs[j]? ≠ some 10) (h : bs[k]? = some 10 ∨ k + 1 = bs.length) : splL (bs.drop f) = (bs.drop f).take (k + 1 - f) :: splL (bs.drop (k + 1)) := by
  have hno2 : ∀ c ∈ (bs.drop f).take (k - f), c ≠ 10 := by
    intro c hc e
    obtain ⟨j, hj⟩ := List.getElem?_of_mem hc
    rw [List.getElem?_take] at hj
    split at hj
    · rw [List.getElem?_drop] at hj
      exact hno (f + j) (by omega) (by omega) (e ▸ hj)
    · cases hj
  have hcat : bs.drop f = (bs.drop f).take (k - f) ++ bs[k] :: bs.drop (k + 1) := by
    rw [← List.drop_eq_getElem_cons hk]
    have : bs.drop k = (bs.drop f).drop (k - f) := by rw [List.drop_drop]; congr 1; omega
    rw [this, List.take_append_drop]
  have htk : (bs.drop f).take (k + 1 - f) = (bs.drop f).take (k - f) ++ [bs[k]] := by
    rw [show k + 1 - f = (k - f) + 1 by omega, List.take_add_one, List.getElem?_drop, show f + (k - f) = k by omega, List.getElem?_eq_getElem hk]
    rfl
  by_cases hx : bs[k] = 10
  · rw [htk, hx]
    have := spl_first (bs.drop (k + 1)) hno2
    rw [hx] at hcat
    rw [← hcat] at this
    exact this
  · rcases h with h | h
    · rw [List.getElem?_eq_getElem hk] at h
      injection h with h
      exact absurd h hx
    · have hd : bs.drop (k + 1) = [] := List.drop_of_length_le (by omega)
      rw [hd] at hcat ⊢
      rw [htk, ← hcat]
      have hne : bs.drop f ≠ [] := by
        rw [hcat]
        simp
      rw [spl_none (fun c hc e => ?_), if_neg hne]
      · rfl
      · rw [hcat] at hc
        rcases List.mem_append.1 hc with hc | hc
        · exact hno2 c hc e
        · rw [List.mem_singleton] at hc
          exact hx (hc ▸ e)
/-- Split's answer. -/
def splT (bs : List UInt8) : List ByteArray := (splL bs).map str
theorem splT_len (bs : List UInt8) : (splT bs).length ≤ bs.length := by
  unfold splT
  rw [List.length_map]
  exact spl_len bs
set_option maxRecDepth 100000 in
set_option maxHeartbeats 3200000 in
theorem split_any (v : Value) (bs : List UInt8) (w : World) (h : SlV w v (bs.map bv)) (hn : bs.length ≤ 1000000) : Calls Try.prog 30 #[v] w (TextsPost w (splT bs)) := by
  have H := Lib.hid h
  have HN := Lib.hid hn
  unfold splT
  clear h hn
  go_enter Try.func30, Try.ntmps30
  go_wp2_with fail
  go_loopw [0, 3] (fun v0 v3 wr => ∃ (k : Nat) (ps : List (List UInt8)), k ≤ bs.length ∧ ps.length ≤ k ∧ splL bs = ps ++ splL (bs.drop k) ∧ (∀ W, Below w.heap.size w W → SlV W v0 ((bs.drop k).map bv)) ∧ lenOf v0 = bs.length - k ∧ OwnV 9 wr w.heap.size v3 ((ps.map str).map sv) ∧ Below w.heap.size w wr) (fun v0 _ _ => lenOf v0)
  case atStart =>
    refine ⟨0, [], Nat.zero_le _, Nat.le_refl _, rfl, fun W hW => H.out.below hW, ?_, OwnV.nil_ _ _, Below.refl _ _⟩
    obtain ⟨A, c, rfl, _⟩ := H.out.len
    show (bs.map bv).length = bs.length - 0
    rw [List.length_map, Nat.sub_zero]
  case round =>
    obtain ⟨k, ps, hk, hpl, hsp, hall, hle, ho, hb⟩ := hrel
    have hs := hall wr hb
    obtain ⟨D, dc, rfl, hd1, hd2, _⟩ := hs.len
    rw [List.length_map, List.length_drop] at hs hd1 ⊢
    unfold maxLen at hd2
    obtain ⟨m, hm⟩ : ∃ m, bs.length - k = m := ⟨_, rfl⟩
    rw [hm] at hs hd1 ⊢
    have HALL : Hid (∀ W, Below w.heap.size w W → SlV W (.slice D m dc) ((bs.drop k).map bv)) := fun W hW => by
      have h1 := hall W hW
      rwa [List.length_map, List.length_drop, hm] at h1
    have HO := Lib.hid ho
    have HB := Lib.hid hb
    have HS := Lib.hid hs
    have HSP := Lib.hid hsp
    have hwz := hb.size
    have hm1 : m ≤ 1000000 := by have := HN.out; omega
    clear ho hb hs hsp hle hall
    by_cases h0 : m = 0
    · subst h0
      have hfin := HSP.out
      rw [List.drop_of_length_le (by omega)] at hfin
      have hfin2 : splL bs = ps := by rw [hfin]; exact List.append_nil ps
      have HF := Lib.hid hfin2
      clear hfin hfin2
      go_wp2_with fail
      go_ret
      exact ⟨_, rfl, by rw [HF.out]; exact HO.out, HB.out⟩
    · have z0 : (0 : Int) < (m : Int) := by omega
      obtain ⟨rest, hrest⟩ : ∃ r, bs.drop k = r := ⟨_, rfl⟩
      have hrl : rest.length = m := by rw [← hrest, List.length_drop]; exact hm
      obtain ⟨sz, s0, s1, hst, hidx⟩ := spl_step (rest := rest) (by intro e; rw [e] at hrl; exact h0 hrl.symm)
      rw [hrl] at s1 hidx
      rw [hrest] at HS HSP HALL
      have HI := Lib.hid (idx_any (.slice D m dc) rest 10 10 bi10 wr HS.out)
      have hfr : ∀ W, (Instr.slice 36 (.slice D m dc) none (some (.int .i64 (sz : Int))) none).run Try.prog W = .ok (.slice D sz dc) W := fun W => b_front D m dc sz _ rfl (by omega) W
      have hbk : ∀ W, (Instr.slice 36 (.slice D m dc) (some (.int .i64 (sz : Int))) none none).run Try.prog W = .ok (.slice (if dc = sz then D else D.map (·.add sz)) (m - sz) (dc - sz)) W := fun W => b_back D m dc sz _ rfl s1 W
      have hsf := slv_front HS.out sz (by rw [List.length_map, hrl]; exact s1)
      rw [← List.map_take] at hsf
      have hcv := conv_str wr D (rest.take sz) sz dc (by rw [List.length_take, hrl]; omega) hsf
      have hsb : ∀ W, Below w.heap.size w W → SlV W (.slice (if dc = sz then D else D.map (·.add sz)) (m - sz) (dc - sz)) ((rest.drop sz).map bv) := fun W hW => by
        have h1 := slv_back (HALL.out W hW) sz (by rw [List.length_map, hrl]; exact s1)
        rwa [List.length_map, hrl, ← List.map_drop] at h1
      obtain ⟨D2, hD2⟩ : ∃ x, (if dc = sz then D else D.map (·.add sz)) = x := ⟨_, rfl⟩
      obtain ⟨m2, hm2⟩ : ∃ x, m - sz = x := ⟨_, rfl⟩
      obtain ⟨c2, hc2⟩ : ∃ x, dc - sz = x := ⟨_, rfl⟩
      simp only [hD2, hm2, hc2] at hbk hsb
      have hnext : bs.drop (k + sz) = rest.drop sz := by rw [← hrest, List.drop_drop]
      have hsp2 : splL bs = (ps ++ [rest.take sz]) ++ splL (bs.drop (k + sz)) := by
        rw [HSP.out, hst, hnext, List.append_assoc]
        rfl
      have HSP2 := Lib.hid hsp2
      have HSB := Lib.hid hsb
      have HNX := Lib.hid hnext
      obtain ⟨r, hr⟩ : ∃ r, Lib.indexByte rest 10 = r := ⟨_, rfl⟩
      rw [hr] at HI hidx
      have hsm : (ps.map str).length + 1 ≤ 2000000 := by rw [List.length_map]; have := HN.out; omega
      clear hrest hrl hst hsf hsb hD2 hc2 hnext hsp2 hr
      rcases hidx with ⟨rfl, rfl⟩ | rfl
      · go_wp2_with fail
        refine HI.out.mono ?_
        rintro e w' ⟨rfl, rfl⟩
        go_wp2_with (at_builtin; refine append_text rfl (.tmp 15) (.tmp 20) rfl wr w.heap.size u3 (ps.map str) rfl HO.out (str (rest.take sz)) rfl hsm hwz ?_; intro v4 w4 ho4 hb4; have HO4 := Lib.hid ho4; have HB4 := Lib.hid hb4; clear ho4 hb4)
        go_roundw
        case rel => exact ⟨k + sz, ps ++ [rest.take sz], by omega, by rw [List.length_append]; show ps.length + 1 ≤ _; omega, HSP2.out, fun W hW => by rw [HNX.out]; exact HSB.out W hW, by show m2 = _; omega, by rw [List.map_append]; exact HO4.out, HB.out.trans HB4.out⟩
        case measure => show m2 < sz; omega
      · have z3 : ¬ (sz : Int) = 0 := by omega
        go_wp2_with fail
        refine HI.out.mono ?_
        rintro e w' ⟨rfl, rfl⟩
        go_wp2_with (at_builtin; refine append_text rfl (.tmp 15) (.tmp 20) rfl wr w.heap.size u3 (ps.map str) rfl HO.out (str (rest.take sz)) rfl hsm hwz ?_; intro v4 w4 ho4 hb4; have HO4 := Lib.hid ho4; have HB4 := Lib.hid hb4; clear ho4 hb4)
        go_roundw
        case rel => exact ⟨k + sz, ps ++ [rest.take sz], by omega, by rw [List.length_append]; show ps.length + 1 ≤ _; omega, HSP2.out, fun W hW => by rw [HNX.out]; exact HSB.out W hW, by show m2 = _; omega, by rw [List.map_append]; exact HO4.out, HB.out.trans HB4.out⟩
        case measure => show m2 < m; omega
set_option maxRecDepth 100000 in
set_option maxHeartbeats 3200000 in
theorem rsplit_any14 (v : Value) (bs : List UInt8) (w : World) (h : SlV w v (bs.map bv)) (hn : bs.length ≤ 1000000) : Calls Try.prog 33 #[v] w (TextsPost w (splT bs)) := by
  obtain ⟨A, c, rfl, hl, hm, _⟩ := h.len
  rw [List.length_map] at h hl ⊢
  unfold maxLen at hm
  have H := Lib.hid h
  obtain ⟨n, hnn⟩ : ∃ n, bs.length = n := ⟨_, rfl⟩
  rw [hnn] at H hl hn ⊢
  have HN := Lib.hid hnn
  unfold splT
  clear h hnn
  go_enter Try.func33, Try.ntmps33
  go_wp2_with fail
  go_loopw [3, 4, 5] (fun v3 v4 v5 wr => ∃ (k f : Nat) (ps : List (List UInt8)), k ≤ n ∧ f ≤ k ∧ ps.length ≤ f ∧ (k = n → f = n) ∧ v4 = .int .i64 (f : Int) ∧ v5 = .int .i64 (k : Int) ∧ (∀ j, f ≤ j → j < k → bs[j]? ≠ some 10) ∧ splL bs = ps ++ splL (bs.drop f) ∧ OwnV 9 wr w.heap.size v3 ((ps.map str).map sv) ∧ Below w.heap.size w wr) (fun _ _ v5 _ => n - (intOf v5).toNat)
  case atStart => exact ⟨0, 0, [], Nat.zero_le _, Nat.le_refl _, Nat.le_refl _, fun h => h, rfl, rfl, fun j h1 h2 => by omega, rfl, OwnV.nil_ _ _, Below.refl _ _⟩
  case round =>
    obtain ⟨k, f, ps, hk, hf, hpl, hend, rfl, rfl, hno, hsp, ho, hb⟩ := hrel
    have HO := Lib.hid ho
    have HB := Lib.hid hb
    have HNO := Lib.hid hno
    have HSP := Lib.hid hsp
    have hwz := hb.size
    clear ho hb hno hsp
    have z0 : (0 : Int) ≤ (k : Int) := by omega
    by_cases hlt : k < n
    · have z1 : (k : Int) < (n : Int) := by omega
      have hkl : k < bs.length := by rw [HN.out]; exact hlt
      obtain ⟨x, hx⟩ : ∃ x, bs[k]? = some x := ⟨_, List.getElem?_eq_getElem hkl⟩
      obtain ⟨ad, rfl, x0⟩ := byte_cell (H.out.below HB.out) k x hx
      have HX := Lib.hid hx
      clear hx
      by_cases hc : x = 10 ∨ k + 1 = n
      · have hcut := spl_cut hf hkl HNO.out (hc.elim (fun hc => .inl (by rw [← hc]; exact HX.out)) (fun hc => .inr (by rw [HN.out]; exact hc)))
        have hmid : ∀ W, (Instr.slice 36 (.slice (some ad) n c) (some (.int .i64 (f : Int))) (some (.int .i64 ((k : Int) + 1))) none).run Try.prog W = .ok (.slice (if c = f then (some ad) else (some ad).map (·.add f)) (k + 1 - f) (c - f)) W := fun W => b_mid (some ad) n c f (k + 1) _ _ rfl (by omega) (by omega) (by omega) W
        have hsm := slv_mid (H.out.below HB.out) f (k + 1) (by omega) (by rw [List.length_map, HN.out]; omega)
        rw [← List.map_drop, ← List.map_take] at hsm
        obtain ⟨D2, hD2⟩ : ∃ y, (if c = f then (some ad) else (some ad).map (·.add f)) = y := ⟨_, rfl⟩
        obtain ⟨m2, hm2⟩ : ∃ y, k + 1 - f = y := ⟨_, rfl⟩
        obtain ⟨c2, hc2⟩ : ∃ y, c - f = y := ⟨_, rfl⟩
        simp only [hD2, hm2, hc2] at hmid hsm hcut
        have hcv := conv_str wr D2 ((bs.drop f).take m2) m2 c2 (by rw [List.length_take, List.length_drop, HN.out]; omega) hsm
        obtain ⟨pc, hpc⟩ : ∃ y, (bs.drop f).take m2 = y := ⟨_, rfl⟩
        rw [hpc] at hcv hcut
        have hsp2 : splL bs = (ps ++ [pc]) ++ splL (bs.drop (k + 1)) := by rw [HSP.out, hcut, List.append_assoc]; rfl
        have HSP2 := Lib.hid hsp2
        have hsm2 : (ps.map str).length + 1 ≤ 2000000 := by rw [List.length_map]; omega
        clear hkl hcut hsm hD2 hm2 hc2 hpc hsp2
        by_cases hx10 : x = 10
        · subst hx10
          rw [bi10] at x0
          go_wp2_with (at_builtin; refine append_text rfl (.tmp 24) (.tmp 31) rfl wr w.heap.size u3 (ps.map str) rfl HO.out (str pc) rfl hsm2 hwz ?_; intro v6 w6 ho6 hb6; have HO6 := Lib.hid ho6; have HB6 := Lib.hid hb6; clear ho6 hb6)
          go_roundw
          case rel => exact ⟨k + 1, k + 1, ps ++ [pc], by omega, Nat.le_refl _, by rw [List.length_append]; show ps.length + 1 ≤ _; omega, fun h => h, by go_num, by go_num, fun j h1 h2 => by omega, HSP2.out, by rw [List.map_append]; exact HO6.out, HB.out.trans HB6.out⟩
          case measure => simp [intOf]; omega
        · have e1 : (bi x == 10) = false := by rw [beq_eq_false_iff_ne, ← bi10]; exact fun e => hx10 (bi_inj e)
          have e2 : ¬ bi x = 10 := by rw [← bi10]; exact fun e => hx10 (bi_inj e)
          have e4 : k + 1 = n := hc.elim (fun hc => absurd hc hx10) id
          have e3 : ((k : Int) == (n : Int) - 1) = true := beq_iff_eq.2 (by omega)
          clear e4
          go_wp2_with (at_builtin; refine append_text rfl (.tmp 24) (.tmp 31) rfl wr w.heap.size u3 (ps.map str) rfl HO.out (str pc) rfl hsm2 hwz ?_; intro v6 w6 ho6 hb6; have HO6 := Lib.hid ho6; have HB6 := Lib.hid hb6; clear ho6 hb6)
          go_roundw
          case rel => exact ⟨k + 1, k + 1, ps ++ [pc], by omega, Nat.le_refl _, by rw [List.length_append]; show ps.length + 1 ≤ _; omega, fun h => h, by go_num, by go_num, fun j h1 h2 => by omega, HSP2.out, by rw [List.map_append]; exact HO6.out, HB.out.trans HB6.out⟩
          case measure => simp [intOf]; omega
      · have hx10 : ¬ x = 10 := fun e => hc (.inl e)
        have hkn : ¬ k + 1 = n := fun e => hc (.inr e)
        have e1 : (bi x == 10) = false := by rw [beq_eq_false_iff_ne, ← bi10]; exact fun e => hx10 (bi_inj e)
        have e2 : ¬ bi x = 10 := by rw [← bi10]; exact fun e => hx10 (bi_inj e)
        have e3 : ((k : Int) == (n : Int) - 1) = false := beq_eq_false_iff_ne.2 (by omega)
        clear hkl hc
        go_wp2_with fail
        go_roundw
        case rel =>
          refine ⟨k + 1, f, ps, by omega, by omega, hpl, (fun h => by omega), rfl, by go_num, fun j h1 h2 => ?_, HSP.out, HO.out, HB.out⟩
          by_cases hj : j = k
          · rw [hj, HX.out]
            intro e
            injection e with e
            exact hx10 e
          · exact HNO.out j h1 (by omega)
        case measure => simp [intOf]; omega
    · obtain rfl : k = n := by omega
      have hf2 := hend rfl
      subst hf2
      have hfin := HSP.out
      rw [List.drop_of_length_le (by rw [HN.out]; exact Nat.le_refl _)] at hfin
      have hfin2 : splL bs = ps := by rw [hfin]; exact List.append_nil ps
      have HF := Lib.hid hfin2
      clear hfin hfin2
      go_wp2_with fail
      go_ret
      exact ⟨_, rfl, by rw [HF.out]; exact HO.out, HB.out⟩
end Go.Proofs.Ytbejgljljjjjcaa.Ln
