/- Texts put together: YOb16. -/
import Derived.Test.YtodlaikemoedfaaQp31
/- obj's reader: octet, number, text, hash; slices.Clone of bytes. -/
namespace Go.Proofs.Ytodlaikemoedfaa.Ob
open Go.RowKit Go.Proofs.Ytodlaikemoedfaa.Sh
open Go.Proofs.Ytodlaikemoedfaa.Tx (OwnV SlV sv bl nameB reads_at texts_at toList_ne')

theorem takeR_len (s : Rdr) (n : Nat) : (takeR s n).1.length ≤ n ∧ (takeR s n).2.1.length ≤ s.1.length := by
  unfold takeR
  split
  · simp
  · simp; omega
theorem octR_eq (s : Rdr) : octR s = (((takeR s 1).1.headD 0).toNat, (takeR s 1).2) := rfl
set_option maxRecDepth 100000 in
set_option maxHeartbeats 800000 in
theorem octet_any (w0 w : World) (g : Nat) (s : Rdr) (h : RdAt w0 w g s) : Calls Try.prog 38 #[.pointer (some ⟨g, 0, none⟩)] w (NumPost w0 w g (octR s).1 (octR s).2) := by
  have HS := Lib.hid h
  obtain ⟨x, hx⟩ : ∃ x, (takeR s 1).1 = x := ⟨_, rfl⟩
  obtain ⟨s', hs'⟩ : ∃ s', (takeR s 1).2 = s' := ⟨_, rfl⟩
  have hlen := (takeR_len s 1).1
  rw [hx] at hlen
  have HE : Hid (octR s = ((x.headD 0).toNat, s')) := by unfold Hid; rw [octR_eq, hx, hs']
  have HX := Lib.hid hx
  have HS' := Lib.hid hs'
  clear h hx hs'
  rw [HE.out]
  go_enter Try.func38, Try.ntmps38
  go_wp2_with fail
  refine (take_any w0 w g 1 s HS.out).mono ?_
  rw [HX.out, HS'.out]
  rintro e w1 ⟨u, rfl, hu, hr, hup⟩
  have HR := Lib.hid hr
  have HUP := Lib.hid hup
  cases x with
  | nil =>
    obtain ⟨A, c, rfl, _⟩ := hu.len
    clear hr hup hu
    go_wp2_with fail
    go_ret
    exact ⟨rfl, HR.out, HUP.out⟩
  | cons y t =>
    have ht : t = [] := List.eq_nil_of_length_eq_zero (by rw [List.length_cons] at hlen; omega)
    subst ht
    obtain ⟨_, _, _, _, _, h4⟩ := hr
    obtain ⟨A, c, rfl, hlc, hcm, hI⟩ := (hu.below h4).len
    obtain ⟨ad, rfl, hc⟩ := hI.at_ 0 (by simp)
    have hc0 : w1.cell? ad = some (.int .u8 (bi y)) := by
      rw [show ad.add 0 = ad from by simp [Addr.add]] at hc
      exact hc
    have hw : IntKind.i64.wrap (bi y) = bi y := by
      have := bi_lt y
      rw [IntKind.wrap_i64]
      omega
    have HY : Hid (bi y = ((([y] : List UInt8).headD 0).toNat : Int)) := by unfold Hid bi; rfl
    unfold maxLen at hcm
    clear hup hu hI hc h4
    go_wp2_with fail
    go_ret
    exact ⟨by rw [← HY.out]; rfl, HR.out, HUP.out⟩
theorem numR_ok {s : Rdr} {a b : Int} (h : getR s.1 ((0 : Nat) : Int) = (a, b, 0)) : ∃ n m : Nat, a = n ∧ b = m ∧ m ≤ s.1.length ∧ numR s = (n, (s.1.drop m, s.2)) := by
  rw [getR_in (Nat.zero_le _), List.drop_zero] at h
  unfold numR
  by_cases h0 : (getE s.1).2.2 = 0
  · rw [if_pos h0] at h ⊢
    injection h with h1 h
    injection h with h2 _
    refine ⟨(getE s.1).1, (getE s.1).2.1, h1.symm, by rw [← h2]; simp, ?_, rfl⟩
    unfold getE at h0 ⊢
    split at h0
    · cases h0
    · rename_i hne
      have := cont_le s.1
      rw [if_neg hne]
      split
      · show cont s.1 + 1 ≤ s.1.length; omega
      · exact Nat.zero_le _
  · rw [if_neg h0] at h
    injection h with h1 h
    injection h with h2 h3
    exfalso
    exact h0 (by omega)
theorem numR_bad {s : Rdr} {a b c : Int} (h : getR s.1 ((0 : Nat) : Int) = (a, b, c)) (hc : c ≠ 0) : numR s = (0, ([], true)) := by
  rw [getR_in (Nat.zero_le _), List.drop_zero] at h
  unfold numR
  by_cases h0 : (getE s.1).2.2 = 0
  · rw [if_pos h0] at h
    injection h with h1 h
    injection h with h2 h3
    exact absurd h3.symm hc
  · rw [if_neg h0]
set_option maxRecDepth 100000 in
set_option maxHeartbeats 800000 in
theorem number_any (w0 w : World) (g : Nat) (s : Rdr) (h : RdAt w0 w g s) : Calls Try.prog 51 #[.pointer (some ⟨g, 0, none⟩)] w (NumPost w0 w g (numR s).1 (numR s).2) := by
  have HS := Lib.hid h
  obtain ⟨A, c, h1, h2, h3, h4⟩ := h
  obtain ⟨x0, x1, f0, f1⟩ := two_cells h1
  obtain ⟨l, hl⟩ : ∃ l, s.1.length = l := ⟨_, rfl⟩
  obtain ⟨A', c', hv, hlc, hcm, _⟩ := h2.len
  injection hv with e1 e2 e3
  subst e1 e3
  unfold maxLen at hcm
  clear e2
  obtain ⟨⟨a, b, k⟩, hr⟩ : ∃ p, getR s.1 ((0 : Nat) : Int) = p := ⟨_, rfl⟩
  have HRR := Lib.hid hr
  have H1 := Lib.hid h1
  have H2 := Lib.hid h2
  have H3 := Lib.hid h3
  have H4 := Lib.hid h4
  have HL := Lib.hid hl
  rw [hl] at x0 hlc
  clear h1 h2 h3 h4 hl hr
  have HSL : Hid (Sl w (.slice A l c) s.1) := by have := H2.out.below H4.out; rw [HL.out] at this; exact this
  by_cases hk : k = 0
  · subst hk
    obtain ⟨n, m, rfl, rfl, hm, hnum⟩ := numR_ok HRR.out
    rw [HL.out] at hm
    have HN := Lib.hid hnum
    have hbk := fun W : World => run_back A l c m hm W
    have HBK : Hid (Sl w0 (.slice (if c = m then A else A.map (·.add m)) (l - m) (c - m)) (s.1.drop m)) := by have := sl_back H2.out m (by rw [HL.out]; exact hm); rw [HL.out] at this; exact this
    obtain ⟨A2, hA2⟩ : ∃ A2, (if c = m then A else A.map (·.add m)) = A2 := ⟨_, rfl⟩
    rw [hA2] at hbk HBK
    clear hA2 hnum
    rw [HN.out]
    have HU : Hid (Upd g w (w.setCell ⟨g, 0, none⟩ (.slice A2 (l - m) (c - m)))) := (Upd.refl g w).set_ 0 _
    have HD : Hid (RdAt w0 (w.setCell ⟨g, 0, none⟩ (.slice A2 (l - m) (c - m))) g (s.1.drop m, s.2)) := by
      have hdl : (s.1.drop m).length = l - m := by rw [List.length_drop, HL.out]
      refine ⟨A2, c - m, ?_, by show Sl w0 (.slice A2 (s.1.drop m).length (c - m)) (s.1.drop m); rw [hdl]; exact HBK.out, H3.out, H4.out.trans (HU.out.below H3.out H4.out.size)⟩
      show Blk _ g _ #[.slice A2 (s.1.drop m).length (c - m), .bool s.2]
      rw [hdl]
      have := H1.out.set_ 0 (.slice A2 (l - m) (c - m))
      simpa using this
    go_enter Try.func51, Try.ntmps51
    go_wp2_with fail
    refine (get_any _ s.1 0 _ _ _ w HSL.out HRR.out).mono ?_
    rintro e w1 ⟨rfl, rfl⟩
    go_wp2_with fail
    go_ret
    exact ⟨rfl, HD.out, HU.out⟩
  · have HN := Lib.hid (numR_bad HRR.out hk)
    have ek : (k == 0) = false := beq_eq_false_iff_ne.2 hk
    clear hk
    rw [HN.out]
    go_enter Try.func51, Try.ntmps51
    go_wp2_with fail
    refine (get_any _ s.1 0 _ _ _ w HSL.out HRR.out).mono ?_
    rintro e w1 ⟨rfl, rfl⟩
    go_wp2_with fail
    refine (fail_any w0 w g _ HS.out).mono ?_
    rintro e w2 ⟨rfl, hr2, hu2⟩
    have HR2 := Lib.hid hr2
    have HU2 := Lib.hid hu2
    clear hr2 hu2 x0 x1 f0 f1
    go_wp2_with fail
    go_ret
    exact ⟨rfl, HR2.out, HU2.out⟩
set_option maxRecDepth 100000 in
set_option maxHeartbeats 800000 in
theorem text_any (w0 w : World) (g : Nat) (s : Rdr) (h : RdAt w0 w g s) : Calls Try.prog 52 #[.pointer (some ⟨g, 0, none⟩)] w (TxtPost w0 w g (textR s).1 (textR s).2) := by
  have HS := Lib.hid h
  clear h
  unfold textR
  go_enter Try.func52, Try.ntmps52
  go_wp2_with fail
  refine (number_any w0 w g s HS.out).mono ?_
  rintro e w1 ⟨rfl, hr1, hu1⟩
  have HR1 := Lib.hid hr1
  have HU1 := Lib.hid hu1
  clear hr1 hu1
  go_wp2_with fail
  refine (take_any w0 w1 g _ _ HR1.out).mono ?_
  rintro e w2 ⟨u, rfl, hu, hr2, hu2⟩
  have HR2 := Lib.hid hr2
  have HU2 := Lib.hid (HU1.out.trans hu2)
  obtain ⟨_, _, _, _, _, h4⟩ := hr2
  obtain ⟨A, c, rfl, _, _, hI, hA⟩ := hu.below h4
  have hc := conv_str w2 A _ c hI hA
  clear hu hu2 h4 hI hA
  go_wp2_with fail
  go_ret
  exact ⟨rfl, HR2.out, HU2.out⟩
set_option maxRecDepth 100000 in
set_option maxHeartbeats 800000 in
theorem hash_any (w0 w : World) (g : Nat) (s : Rdr) (h : RdAt w0 w g s) : Calls Try.prog 53 #[.pointer (some ⟨g, 0, none⟩)] w (TxtPost w0 w g (hashR s).1 (hashR s).2) := by
  have HS := Lib.hid h
  clear h
  unfold hashR
  have hlen := (takeR_len s 32).1
  have HLN := Lib.hid hlen
  clear hlen
  go_enter Try.func53, Try.ntmps53
  go_wp2_with fail
  refine (take_any w0 w g 32 s HS.out).mono ?_
  rintro e w1 ⟨u, rfl, hu, hr1, hu1⟩
  have HR1 := Lib.hid hr1
  have HU1 := Lib.hid hu1
  obtain ⟨_, _, _, _, _, h4⟩ := hr1
  have HU := Lib.hid (hu.below h4)
  clear hu hu1 h4
  go_wp2_with fail
  refine (hex_any u _ w1 HU.out (by have := HLN.out; omega)).mono ?_
  rintro e w2 ⟨rfl, hb2⟩
  have HR2 := Lib.hid (HR1.out.below hb2)
  have HU2 := Lib.hid (HU1.out.trans (Upd.of_below hb2))
  clear hb2
  go_wp2_with fail
  go_ret
  exact ⟨rfl, HR2.out, HU2.out⟩
end Go.Proofs.Ytodlaikemoedfaa.Ob
