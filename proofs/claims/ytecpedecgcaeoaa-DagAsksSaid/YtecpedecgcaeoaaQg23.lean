/- Texts put together: Dg4. -/
import Derived.Test.YtecpedecgcaeoaaQg22
/- Package dag: slices.Clone of places; placesOf, idsOf, isAbove, Parents. -/
set_option linter.unusedVariables false
set_option linter.unusedSimpArgs false
namespace Go.Proofs.Ytecpedecgcaeoaa.Tx
open Go.RowKit Go.Maps Go.Proofs.Ytecpedecgcaeoaa.Sh

set_option maxRecDepth 100000 in
set_option maxHeartbeats 400000 in
theorem nclone_any (v : Value) (ks : List Nat) (w : World) (h : SlV w v (ks.map nv)) (hn : ks.length ≤ 2000000) : Calls Try.prog 48 #[v] w (NatsPost w ks) := by
  obtain ⟨A, c, rfl, hlc, hcm, hI, hA⟩ := h
  rw [List.length_map] at hlc hI ⊢
  rcases A with _ | ad
  · have h0 : ks = [] := List.map_eq_nil_iff.1 (hA rfl)
    subst h0
    have hnil := fun (w : World) => Lib.run_eql_slice_nil (P := Try.prog) w 31 3 none 0 c 0 0 Try.underlying31
    simp only [Option.isNone] at hnil
    clear hI hA hlc
    show Calls _ _ #[.slice none 0 c] _ _
    go_enter Try.func48, Try.ntmps48
    go_wp2_with fail
    go_ret
    exact ⟨_, rfl, OwnV.nil_ _ _, Below.refl _ _⟩
  · have hr : Reads (w.alloc (.cells #[] 3)) w.heap.size 1 (some ad) ks.length (ks.map nv) := hI.below ((Below.refl _ _).alloc (Nat.le_refl _) _)
    have hown : OwnV 3 (w.alloc (.cells #[] 3)) w.heap.size (.slice (some ⟨w.heap.size, 0, none⟩) 0 0) (([] : List Nat).map nv) :=
      World.ownsRow_made w #[] 0 (Nat.le_refl _) (by unfold maxLen; omega) rfl
    obtain ⟨l, hl⟩ : ∃ l, ks.length = l := ⟨_, rfl⟩
    rw [hl] at hr hn ⊢
    have hnil := fun (w : World) => Lib.run_eql_slice_nil (P := Try.prog) w 31 3 (some ad) l c 0 0 Try.underlying31
    simp only [Option.isNone] at hnil
    have hsm : ([] : List Nat).length + l ≤ 2000000 := by simpa using hn
    have hz : w.heap.size ≤ (w.alloc (.cells #[] 3)).heap.size := by simp
    have HR := Lib.hid hr
    have HOWN := Lib.hid hown
    have HZ := Lib.hid hz
    clear hl hr hown hz hI hA hlc hcm
    go_enter Try.func48, Try.ntmps48
    go_wp2_with (at_builtin; refine append_nats rfl (.tmp 5) (.tmp 6) rfl _ w.heap.size (.slice (some ⟨w.heap.size, 0, none⟩) 0 0) [] rfl HOWN.out _ (some ad) l c ks rfl HR.out hsm HZ.out ?_; intro v3 w3 ho3 hb3; have HO := Lib.hid ho3; have HB := Lib.hid hb3; clear ho3 hb3)
    go_ret
    refine ⟨v3, rfl, ?_, ((Below.refl _ _).alloc (Nat.le_refl _) _).trans HB.out⟩
    simpa using HO.out

theorem g_results2 {fn : Func} {t u : Tmp} (h : fn.results = #[.tmp t, .tmp u]) (tmps : Array Value) (P : Program) (w : World) :
    (results fn tmps).run P w = .ok (.tuple #[tmps.getD t undef, tmps.getD u undef]) w := by
  simp [results, h]
/-- What placesOf hands back. -/
def PlacesPost (w : World) (G : GR) (xs : List ByteArray) (e : Ending) (w' : World) : Prop :=
  Below w.heap.size w w' ∧ ((allG G xs = true ∧ ∃ vp, e = .returned (.tuple #[vp, .int .i64 0]) ∧ OwnV 3 w' w.heap.size vp ((plsL G xs).map nv)) ∨ (allG G xs = false ∧ e = .returned (.tuple #[.slice none 0 0, .int .i64 7])))
theorem all_snoc (G : GR) (xs : List ByteArray) (k : Nat) (hk : k < xs.length) : allG G (xs.take (k + 1)) = (allG G (xs.take k) && inG G xs[k]) := by
  unfold allG
  rw [List.take_succ_eq_append_getElem hk, List.all_append]
  simp
theorem pls_snoc (G : GR) (xs : List ByteArray) (k : Nat) (hk : k < xs.length) : plsL G (xs.take (k + 1)) = plsL G (xs.take k) ++ [pl G xs[k]] := by
  unfold plsL
  rw [List.take_succ_eq_append_getElem hk, List.map_append]
  rfl
theorem all_not {G : GR} {xs : List ByteArray} {s : ByteArray} (h : s ∈ xs) (hs : inG G s = false) : allG G xs = false := by
  cases ha : allG G xs with
  | false => rfl
  | true => rw [all_iff.1 ha s h] at hs; cases hs
set_option maxRecDepth 100000 in
set_option maxHeartbeats 1600000 in
theorem gplaces_any (Z : Nat → Prop) (g : Nat) (G : GR) (v : Value) (xs : List ByteArray) (w : World) (h : GAt Z w g G) (hv : SlV w v (xs.map sv)) (hsz : ∀ s ∈ xs, s.size ≤ 1000000) (hn : xs.length ≤ 1000000) :
    Calls Try.prog 29 #[.pointer (some ⟨g, 0, none⟩), v] w (PlacesPost w G xs) := by
  obtain ⟨F, bm, vr, hx⟩ := h
  obtain ⟨A, c, rfl, hlc, hcm, hR⟩ := hv.len
  rw [List.length_map] at hlc hR ⊢
  obtain ⟨l, hl⟩ : ∃ l, xs.length = l := ⟨_, rfl⟩
  rw [hl] at hlc hn ⊢
  have HL := Lib.hid hl
  have HR := Lib.hid hR
  have HX := Lib.hid hx
  have HSZ := Lib.hid hsz
  have hmk : ∀ w : World, (Instr.makeSlice 31 (.int .i64 0) (.int .i64 (l : Int))).run Try.prog w = .ok (.slice (some ⟨w.heap.size, 0, none⟩) 0 l) (w.alloc (.cells (madeCells #[.int .i64 0] l) 3)) := fun w => make_ints 0 l (Nat.zero_le _) (by omega) w
  have hown : OwnV 3 (w.alloc (.cells (madeCells #[.int .i64 0] l) 3)) w.heap.size (.slice (some ⟨w.heap.size, 0, none⟩) 0 l) (([] : List Nat).map nv) :=
    World.ownsRow_made w _ l (Nat.le_refl _) (by unfold maxLen; omega) (by rw [size_madeCells]; omega)
  have hb0 : Below w.heap.size w (w.alloc (.cells (madeCells #[.int .i64 0] l) 3)) := (Below.refl _ _).alloc (Nat.le_refl _) _
  have HOWN := Lib.hid hown
  have HB0 := Lib.hid hb0
  have l1 : (l : Int) ≤ 1000000 := by omega
  clear hl hv hR hx hsz hown hb0 hcm
  go_enter Try.func29, Try.ntmps29
  go_wp2_with fail
  go_loopw [6, 8, 9, 10, 16] (fun v _ _ _ i wr => ∃ k : Nat, k ≤ l ∧ i = .int .i64 k ∧ OwnV 3 wr w.heap.size v ((plsL G (xs.take k)).map nv) ∧ Below w.heap.size w wr ∧ allG G (xs.take k) = true) (fun _ _ _ _ i _ => l - (intOf i).toNat)
  case atStart => exact ⟨0, Nat.zero_le _, rfl, HOWN.out, HB0.out, rfl⟩
  case round =>
    obtain ⟨k, hk, rfl, ho, hbw, hall⟩ := hrel
    have hwz := hbw.size
    have HO := Lib.hid ho
    have HBW := Lib.hid hbw
    have HALL := Lib.hid hall
    clear ho hbw hall
    have z0 : (0 : Int) ≤ (k : Int) := by omega
    by_cases hlt : k < l
    · have hkl : k < xs.length := by rw [HL.out]; exact hlt
      obtain ⟨ad, rfl, hcell⟩ := texts_at ((HR.out.below HBW.out).more HBW.out.size) k hkl
      have z1 : (k : Int) < (l : Int) := by omega
      have HS1 := Lib.hid (all_snoc G xs k hkl)
      have HS2 := Lib.hid (pls_snoc G xs k hkl)
      have HMEM := Lib.hid (show xs[k] ∈ xs from List.getElem_mem hkl)
      generalize xs[k] = x at *
      have hxr := HX.out.below HBW.out
      have c0 := hxr.c0
      obtain ⟨D, hown, hpl⟩ := hxr.map
      have HOWN2 := Lib.hid hown
      have HKEY := Lib.hid (key_ba x (HSZ.out x HMEM.out))
      have HLOOK := Lib.hid (hpl.look x)
      obtain ⟨p, hp⟩ : ∃ p, pl G x = p := ⟨_, rfl⟩
      have HP := Lib.hid hp
      rw [hp] at HLOOK
      have hsm : (plsL G (xs.take k)).length + 1 ≤ 2000000 := by rw [pls_len, List.length_take]; omega
      clear hkl hxr hown hpl hp
      cases hin : inG G x with
      | false =>
        have HIN := Lib.hid hin
        clear hin
        go_wp2_with (at_lookup; refine wpList_lookup_own_ok_int _ rfl _ _ 49 rfl 9 3 .i64 lawS Try.underlying49 Try.underlying3 (zeroI _) bm _ D rfl (by exact HOWN2.out) _ _ rfl (by exact HKEY.out) ?_; intro c hat hwc; rw [HLOOK.out.1, HIN.out]; clear hat hwc)
        (try simp only [Exit.inBlock, Exit.then]); refine bodyPost_ret (g_results2 rfl _ _ _) rfl ?_
        exact ⟨HBW.out, .inr ⟨all_not HMEM.out HIN.out, rfl⟩⟩
      | true =>
        have HIN := Lib.hid hin
        clear hin
        go_wp2_with (first
          | (at_lookup; refine wpList_lookup_own_ok_int _ rfl _ _ 49 rfl 9 3 .i64 lawS Try.underlying49 Try.underlying3 (zeroI _) bm _ D rfl (by exact HOWN2.out) _ _ rfl (by exact HKEY.out) ?_; intro c hat hwc; obtain rfl : c = (p : Int) := (by have h := hat.symm.trans HLOOK.out.2; injection h with h; injection h with h); rw [HLOOK.out.1, HIN.out]; clear hat hwc)
          | (at_builtin; refine append_nat rfl (.tmp 31) (.tmp 33) rfl wr w.heap.size u6 _ rfl HO.out p rfl hsm hwz ?_; intro v3 w3 ho3 hb3; have HO3 := Lib.hid ho3; have HB3 := Lib.hid hb3; clear ho3 hb3))
        go_roundw
        case rel => exact ⟨k + 1, by omega, by go_num, by rw [HS2.out, HP.out]; exact HO3.out, HBW.out.trans HB3.out, by rw [HS1.out, HALL.out, HIN.out]; rfl⟩
        case measure => simp [intOf]; omega
    · obtain rfl : k = l := by omega
      have e : xs.take k = xs := List.take_of_length_le (by rw [HL.out]; omega)
      have HE := Lib.hid e
      clear e
      go_wp2_with fail
      (try simp only [Exit.inBlock, Exit.then]); refine bodyPost_ret (g_results2 rfl _ _ _) rfl ?_
      refine ⟨HBW.out, .inl ⟨?_, u6, rfl, ?_⟩⟩
      · have := HALL.out; rwa [HE.out] at this
      · have := HO.out; rwa [HE.out] at this

set_option maxRecDepth 100000 in
set_option maxHeartbeats 1600000 in
theorem gids_any (Z : Nat → Prop) (g : Nat) (G : GR) (v : Value) (ks : List Nat) (w : World) (h : GAt Z w g G) (hv : SlV w v (ks.map nv)) (hlt : ∀ k ∈ ks, k < G.length) (hn : ks.length ≤ 1000000) :
    Calls Try.prog 34 #[.pointer (some ⟨g, 0, none⟩), v] w (TextsPost w (ks.map (idAt G))) := by
  obtain ⟨F, bm, vr, hx⟩ := h
  obtain ⟨Ar, cr, rfl, hlr, hcr⟩ := hx.slice
  obtain ⟨A, c, rfl, hlc, hcm, hR⟩ := hv.len
  rw [List.length_map] at hlc hR ⊢
  have HLT := Lib.hid hlt
  obtain ⟨l, hl⟩ : ∃ l, ks.length = l := ⟨_, rfl⟩
  rw [hl] at hlc hn ⊢
  have HL := Lib.hid hl
  have HR := Lib.hid hR
  have hAT := fun (W : World) (hW : Below w.heap.size w W) k hk => (hx.below hW).at_ k hk
  have hC1 := fun (W : World) (hW : Below w.heap.size w W) => (hx.below hW).c1
  obtain ⟨n, hn'⟩ : ∃ n, G.length = n := ⟨_, rfl⟩
  rw [hn'] at hlr hAT hC1 HLT
  have HAT := Lib.hid hAT
  have HC1 := Lib.hid hC1
  have hmk : ∀ w : World, (Instr.makeSlice 23 (.int .i64 0) (.int .i64 (l : Int))).run Try.prog w = .ok (.slice (some ⟨w.heap.size, 0, none⟩) 0 l) (w.alloc (.cells (madeCells #[.string ⟨#[]⟩] l) 9)) := fun w => make_texts 0 l (Nat.zero_le _) (by omega) w
  have hown : OwnV 9 (w.alloc (.cells (madeCells #[.string ⟨#[]⟩] l) 9)) w.heap.size (.slice (some ⟨w.heap.size, 0, none⟩) 0 l) (([] : List ByteArray).map sv) :=
    World.ownsRow_made w _ l (Nat.le_refl _) (by unfold maxLen; omega) (by rw [size_madeCells]; omega)
  have hb0 : Below w.heap.size w (w.alloc (.cells (madeCells #[.string ⟨#[]⟩] l) 9)) := (Below.refl _ _).alloc (Nat.le_refl _) _
  have HOWN := Lib.hid hown
  have HB0 := Lib.hid hb0
  have l1 : (l : Int) ≤ 1000000 := by omega
  clear hl hv hR hx hown hb0 hcm hAT hC1 hlt hn'
  go_enter Try.func34, Try.ntmps34
  go_wp2_with fail
  go_loopw [5, 7, 13] (fun v _ i wr => ∃ k : Nat, k ≤ l ∧ i = .int .i64 k ∧ OwnV 9 wr w.heap.size v (((ks.take k).map (idAt G)).map sv) ∧ Below w.heap.size w wr) (fun _ _ i _ => l - (intOf i).toNat)
  case atStart => exact ⟨0, Nat.zero_le _, rfl, HOWN.out, HB0.out⟩
  case round =>
    obtain ⟨k, hk, rfl, ho, hbw⟩ := hrel
    have hwz := hbw.size
    have HO := Lib.hid ho
    have HBW := Lib.hid hbw
    clear ho hbw
    have z0 : (0 : Int) ≤ (k : Int) := by omega
    by_cases hlt : k < l
    · have hkl : k < ks.length := by rw [HL.out]; exact hlt
      obtain ⟨ad, rfl, hcell⟩ := nats_at ((HR.out.below HBW.out).more HBW.out.size) k hkl
      have z1 : (k : Int) < (l : Int) := by omega
      have HS := Lib.hid (show (ks.take (k + 1)).map (idAt G) = (ks.take k).map (idAt G) ++ [idAt G ks[k]] by rw [List.take_succ_eq_append_getElem hkl, List.map_append]; rfl)
      have hpn := HLT.out ks[k] (List.getElem_mem hkl)
      have hsm : ((ks.take k).map (idAt G)).length + 1 ≤ 2000000 := by rw [List.length_map, List.length_take]; omega
      generalize ks[k] = p at *
      obtain ⟨adr, d, rfl, _, _, k0, _, _⟩ := HAT.out wr HBW.out p hpn
      have c1 := HC1.out wr HBW.out
      have p0 : (0 : Int) ≤ (p : Int) := by omega
      have p1 : (p : Int) < (n : Int) := by omega
      obtain ⟨x, hxx⟩ : ∃ x, idAt G p = x := ⟨_, rfl⟩
      rw [hxx] at k0 HS
      clear hkl hpn hxx
      go_wp2_with (at_builtin; refine append_text rfl (.tmp 17) (.tmp 26) rfl wr w.heap.size u5 _ rfl HO.out x rfl hsm hwz ?_; intro v3 w3 ho3 hb3; have HO3 := Lib.hid ho3; have HB3 := Lib.hid hb3; clear ho3 hb3)
      go_roundw
      case rel => exact ⟨k + 1, by omega, by go_num, by rw [HS.out]; exact HO3.out, HBW.out.trans HB3.out⟩
      case measure => simp [intOf]; omega
    · obtain rfl : k = l := by omega
      have HE := Lib.hid (show ks.take k = ks from List.take_of_length_le (by rw [HL.out]; omega))
      go_wp2_with fail
      go_ret
      refine ⟨u5, rfl, ?_, HBW.out⟩
      have := HO.out
      rwa [HE.out] at this

set_option maxRecDepth 100000 in
set_option maxHeartbeats 1600000 in
theorem gabove_any (Z : Nat → Prop) (g : Nat) (G : GR) (t : Int) (v : Value) (ks : List Nat) (w : World) (h : GAt Z w g G) (hv : SlV w v (ks.map nv)) (hlt : ∀ k ∈ ks, k < G.length) :
    Calls Try.prog 31 #[.pointer (some ⟨g, 0, none⟩), .int .i64 t, v] w fun e w' => e = .returned (.bool (aboveB G t ks)) ∧ w = w' := by
  obtain ⟨F, bm, vr, hx⟩ := h
  obtain ⟨Ar, cr, rfl, hlr, hcr⟩ := hx.slice
  obtain ⟨A, c, rfl, hlc, hcm, hR⟩ := hv.len
  rw [List.length_map] at hlc hR ⊢
  have HLT := Lib.hid hlt
  obtain ⟨l, hl⟩ : ∃ l, ks.length = l := ⟨_, rfl⟩
  rw [hl] at hlc ⊢
  unfold maxLen at hcm
  have HL := Lib.hid hl
  have HR := Lib.hid hR
  have hAT := fun k hk => hx.at_ k hk
  have c1 := hx.c1
  obtain ⟨n, hn'⟩ : ∃ n, G.length = n := ⟨_, rfl⟩
  rw [hn'] at hlr hAT c1 HLT
  have HAT := Lib.hid hAT
  clear hl hv hR hx hAT hlt hn'
  go_enter Try.func31, Try.ntmps31
  go_wp2_with fail
  go_loop [8, 11] (fun _ i => ∃ k : Nat, k ≤ l ∧ i = .int .i64 k ∧ aboveB G t (ks.take k) = true) (fun _ i => l - (intOf i).toNat)
  case atStart => exact ⟨0, Nat.zero_le _, rfl, rfl⟩
  case round =>
    obtain ⟨k, hk, rfl, hab⟩ := hrel
    have HAB := Lib.hid hab
    clear hab
    have z0 : (0 : Int) ≤ (k : Int) := by omega
    by_cases hlt : k < l
    · have hkl : k < ks.length := by rw [HL.out]; exact hlt
      obtain ⟨ad, rfl, hcell⟩ := nats_at HR.out k hkl
      have z1 : (k : Int) < (l : Int) := by omega
      have HS := Lib.hid (show aboveB G t (ks.take (k + 1)) = (aboveB G t (ks.take k) && decide (stAt G ks[k] < t)) by unfold aboveB; rw [List.take_succ_eq_append_getElem hkl, List.all_append]; simp)
      have hpn := HLT.out ks[k] (List.getElem_mem hkl)
      have HMEM := Lib.hid (show ks[k] ∈ ks from List.getElem_mem hkl)
      generalize ks[k] = p at *
      obtain ⟨adr, d, rfl, _, _, _, _, k2⟩ := HAT.out p hpn
      have p0 : (0 : Int) ≤ (p : Int) := by omega
      have p1 : (p : Int) < (n : Int) := by omega
      obtain ⟨y, hy⟩ : ∃ y, stAt G p = y := ⟨_, rfl⟩
      have HY := Lib.hid hy
      rw [hy] at k2 HS
      clear hkl hpn hy
      by_cases hyt : t ≤ y
      · have e1 : decide (t ≤ y) = true := decide_eq_true hyt
        go_wp2
        go_ret
        refine ⟨?_, rfl⟩
        have : aboveB G t ks = false := by
          cases hb : aboveB G t ks with
          | false => rfl
          | true =>
            have := of_decide_eq_true (List.all_eq_true.1 hb p HMEM.out)
            rw [HY.out] at this
            omega
        rw [this]; rfl
      · have e1 : decide (t ≤ y) = false := decide_eq_false hyt
        have e2 : decide (y < t) = true := decide_eq_true (by omega)
        have HS2 := Lib.hid (HS.out.trans (by rw [HAB.out, e2, Bool.and_self]))
        clear e2
        go_wp2
        go_round
        case rel => exact ⟨k + 1, by omega, by go_num, HS2.out⟩
        case measure => simp [intOf]; omega
    · obtain rfl : k = l := by omega
      have HE := Lib.hid (show ks.take k = ks from List.take_of_length_le (by rw [HL.out]; omega))
      go_wp2
      go_ret
      refine ⟨?_, rfl⟩
      have := HAB.out
      rw [HE.out] at this
      rw [this]; rfl

set_option maxRecDepth 100000 in
set_option maxHeartbeats 1600000 in
theorem gparents_any (Z : Nat → Prop) (g : Nat) (G : GR) (s : ByteArray) (w : World) (h : GAt Z w g G) (hw : GW G) (hs : s.size ≤ 1000000) (hpl' : (parAt G (pl G s)).length ≤ 1000000) :
    Calls Try.prog 17 #[.pointer (some ⟨g, 0, none⟩), .string s] w (TextsPost w (if inG G s then (parAt G (pl G s)).map (idAt G) else [])) := by
  have hids := fun v hv => gids_any Z g G v (parAt G (pl G s)) w h hv (fun k hk => par_lt hw hk) hpl'
  obtain ⟨F, bm, v, hx⟩ := h
  obtain ⟨A, c, rfl, hlc, hcm⟩ := hx.slice
  have c0 := hx.c0
  have c1 := hx.c1
  obtain ⟨D, hown, hpl⟩ := hx.map
  have HOWN := Lib.hid hown
  have HKEY := Lib.hid (key_ba s hs)
  have HLOOK := Lib.hid (hpl.look s)
  have hat := fun k hk => hx.at_ k hk
  obtain ⟨p, hp⟩ : ∃ p, pl G s = p := ⟨_, rfl⟩
  rw [hp] at hids hpl' HLOOK ⊢
  have HIDS := Lib.hid hids
  cases hin : inG G s with
  | false =>
    have HIN := Lib.hid hin
    obtain ⟨l, hl⟩ : ∃ l, G.length = l := ⟨_, rfl⟩
    rw [hl] at c1
    clear hx hown hpl hat hin hl hlc hp hids hw hpl'
    go_enter Try.func17, Try.ntmps17
    go_wp2_with (at_lookup; refine wpList_lookup_own_ok_int _ rfl _ _ 49 rfl 9 3 .i64 lawS Try.underlying49 Try.underlying3 (zeroI _) bm _ D rfl (by exact HOWN.out) _ _ rfl (by exact HKEY.out) ?_; intro c hat hwc; rw [HLOOK.out.1, HIN.out]; clear hat hwc)
    go_ret
    exact ⟨_, rfl, OwnV.nil_ _ _, Below.refl _ _⟩
  | true =>
    have HIN := Lib.hid hin
    have hlt := pl_lt hin
    rw [hp] at hlt
    obtain ⟨ad, d, rfl, hd, _, _, k1, _⟩ := hat _ hlt
    have HD := Lib.hid hd
    obtain ⟨l, hl⟩ : ∃ l, G.length = l := ⟨_, rfl⟩
    rw [hl] at c1 hlt hlc
    have z0 : (0 : Int) ≤ (p : Int) := by omega
    have z1 : (p : Int) < (l : Int) := by omega
    clear hx hown hpl hat hin hl hlc hp hlt hids hw hpl' hd
    go_enter Try.func17, Try.ntmps17
    go_wp2_with (at_lookup; refine wpList_lookup_own_ok_int _ rfl _ _ 49 rfl 9 3 .i64 lawS Try.underlying49 Try.underlying3 (zeroI _) bm _ D rfl (by exact HOWN.out) _ _ rfl (by exact HKEY.out) ?_; intro c hat hwc; obtain rfl : c = (p : Int) := (by have h := hat.symm.trans HLOOK.out.2; injection h with h; injection h with h); rw [HLOOK.out.1, HIN.out]; clear hat hwc)
    refine (HIDS.out _ HD.out).mono ?_
    rintro e w1 ⟨v1, rfl, ho, hb⟩
    have HO := Lib.hid ho
    have HB := Lib.hid hb
    clear ho hb
    go_wp2_with fail
    go_ret
    exact ⟨v1, rfl, HO.out, HB.out⟩
end Go.Proofs.Ytecpedecgcaeoaa.Tx
