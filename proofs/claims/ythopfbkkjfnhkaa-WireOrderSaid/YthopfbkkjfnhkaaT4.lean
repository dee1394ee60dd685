/- Has, Texts, CopyTexts, Few, flag; appends of texts. -/
import Derived.Test.YthopfbkkjfnhkaaT3
import Derived.Test.YthopfbkkjfnhkaaSums
namespace Go.Proofs.Ythopfbkkjfnhkaa
open Go.RowKit

theorem append_texts {ops : Array Oper} {rest : List Oper} {o : Oper} {a : Act} {Q : Exit → Act → World → Prop} (hgd : o.guard = none) (s x : Operand)
    (ho : o.op = .call { callee := .builtin .append, args := #[s, x], argTypes := #[36, 36] }) (w : World) (B : Nat) (v : Value) (ts : List ByteArray) (hs : a.eval s = v) (hown : OwnV 9 w B v (ts.map sv))
    (B' : Nat) (A : Option Addr) (m c : Nat) (us : List ByteArray) (hx : a.eval x = .slice A m c) (hr : Reads w B' 1 A m (us.map sv)) (hsmall : ts.length + m ≤ 2000000) (hB : B ≤ w.heap.size)
    (h : ∀ v' w', OwnV 9 w' B v' ((ts ++ us).map sv) → Below B w w' → wpList Try.prog ops Q rest (a.put o.dst v') w') : wpList Try.prog ops Q (o :: rest) a w := by
  obtain ⟨i0, hi, hz0, hz1, hz2⟩ := info_parts info_str
  have hm : us.length = m := by have := hr.1; simpa using this
  have hown' : w.ownsRow B 9 1 v ts.length (ts.map sv) := by have := hown; unfold OwnV at this; rwa [List.length_map] at this
  refine wpList_append_any w hgd s x 36 ho B 9 i0 (.string ⟨#[]⟩) 1 16 Try.underlying36 hi hz0 hz1 hz2 rfl (by decide) v ts.length _ hs hown' B' A m c _ hx hr (sv_one us) (by unfold maxLen; omega) (by omega) hB ?_
  intro v' w' h1 h2 _
  refine h v' w' ?_ ((Below.refl _ _).grown h2 hB (fun k hk => (hown'.lt k hk).1))
  unfold OwnV
  rw [List.length_map, List.length_append, hm, List.map_append]
  exact h1
theorem append_text {ops : Array Oper} {rest : List Oper} {o : Oper} {a : Act} {Q : Exit → Act → World → Prop} (hgd : o.guard = none) (s x : Operand)
    (ho : o.op = .call { callee := .builtin .append, args := #[s, x], argTypes := #[36, 36] }) (w : World) (B : Nat) (v : Value) (ts : List ByteArray) (hs : a.eval s = v) (hown : OwnV 9 w B v (ts.map sv))
    (u : ByteArray) (hx : a.eval x = .slice (some ⟨w.heap.size, 0, none⟩) 1 1) (hsmall : ts.length + 1 ≤ 2000000) (hB : B ≤ w.heap.size)
    (h : ∀ v' w', OwnV 9 w' B v' ((ts ++ [u]).map sv) → Below B w w' → wpList Try.prog ops Q rest (a.put o.dst v') w') : wpList Try.prog ops Q (o :: rest) a (w.alloc (.cells #[.string u] 9)) := by
  have hr : Reads (w.alloc (.cells #[.string u] 9)) (w.heap.size + 1) 1 (some ⟨w.heap.size, 0, none⟩) 1 ([u].map sv) := by
    refine ⟨rfl, fun _ => ⟨_, rfl, by simp, fun j v hv => ?_⟩⟩
    rw [Addr.add_mid, cell_of_row _ _ _ _ 9 (0, 0) (heap_alloc_new w _), Nat.zero_add, ← hv]
    simp [sv]
  refine append_texts hgd s x ho _ B v ts hs (hown.alloc _) _ _ 1 1 [u] hx hr hsmall (by simp; omega) ?_
  intro v' w' h1 h2
  exact h v' w' h1 (((Below.refl _ _).alloc hB _).trans h2)

def hasT (xs : List ByteArray) (s : ByteArray) : Bool := xs.any (fun t => t.toList == s.toList)
theorem hasT_yes {xs : List ByteArray} {s : ByteArray} (h : s ∈ xs) : hasT xs s = true := List.any_eq_true.2 ⟨s, h, beq_self_eq_true _⟩
theorem hasT_no {xs : List ByteArray} {s : ByteArray} (h : s ∉ xs) : hasT xs s = false := by
  unfold hasT
  rw [List.any_eq_false]
  intro t ht e
  exact h (by rw [← ba_ext (beq_iff_eq.1 e)]; exact ht)
theorem hasT_iff {xs : List ByteArray} {s : ByteArray} : hasT xs s = true ↔ s ∈ xs := by
  constructor
  · intro h
    rcases Classical.em (s ∈ xs) with h1 | h1
    · exact h1
    · rw [hasT_no h1] at h; cases h
  · exact hasT_yes
theorem toList_ne {s t : ByteArray} (h : t ≠ s) : (t.toList == s.toList) = false := by rw [beq_eq_false_iff_ne]; exact fun e => h (ba_ext e)
theorem texts_at {w : World} {A : Option Addr} {xs : List ByteArray} (h : Reads w w.heap.size 1 A xs.length (xs.map sv)) (k : Nat) (hk : k < xs.length) : ∃ ad, A = some ad ∧ w.cell? (ad.add k) = some (.string xs[k]) :=
  reads_at h k _ (by rw [List.getElem?_map, List.getElem?_eq_getElem hk]; rfl)

set_option maxRecDepth 100000 in
set_option maxHeartbeats 400000 in
theorem has_any (v : Value) (xs : List ByteArray) (s : ByteArray) (w : World) (h : SlV w v (xs.map sv)) : Calls Try.prog 30 #[v, .string s] w fun e w' => e = .returned (.bool (hasT xs s)) ∧ w = w' := by
  obtain ⟨A, c, rfl, hlc, hcm, hR⟩ := h.len
  rw [List.length_map] at hlc hR ⊢
  have HR := Lib.hid hR
  unfold maxLen at hcm
  obtain ⟨l, hl⟩ : ∃ l, xs.length = l := ⟨_, rfl⟩
  rw [hl] at hlc ⊢
  have HL := Lib.hid hl
  obtain ⟨t, ht⟩ : ∃ t, hasT xs s = t := ⟨_, rfl⟩
  rw [ht]
  have HT := Lib.hid ht
  clear h hR hl ht
  go_enter Try.func30, Try.ntmps30
  go_wp2
  go_loop [6, 9] (fun _ i => ∃ k : Nat, k ≤ l ∧ i = .int .i64 k ∧ s ∉ xs.take k) (fun _ i => l - (intOf i).toNat)
  case atStart => exact ⟨0, Nat.zero_le _, rfl, by simp⟩
  case round =>
    obtain ⟨k, hk, rfl, hno⟩ := hrel
    have HNO := Lib.hid hno
    clear hno
    by_cases hlt : k < l
    · have hkl : k < xs.length := by rw [HL.out]; exact hlt
      obtain ⟨ad, rfl, hcell⟩ := texts_at HR.out k hkl
      have HX := Lib.hid (show xs.take (k + 1) = xs.take k ++ [xs[k]] from List.take_succ_eq_append_getElem hkl)
      have HMEM := Lib.hid (show xs[k] ∈ xs from List.getElem_mem hkl)
      generalize xs[k] = x at *
      clear hkl
      by_cases he : x = s
      · subst he
        have htt : t = true := by rw [← HT.out]; exact hasT_yes HMEM.out
        subst htt
        go_wp2
        go_ret
        exact ⟨rfl, rfl⟩
      · have hne := toList_ne he
        go_wp2
        go_round
        case rel =>
          refine ⟨k + 1, by omega, by go_num, ?_⟩
          rw [HX.out, List.mem_append, List.mem_singleton]
          rintro (hh | hh)
          · exact HNO.out hh
          · exact he hh.symm
        case measure => simp [intOf]; omega
    · have htt : t = false := by
        rw [← HT.out]
        have := HNO.out
        rw [List.take_of_length_le (by rw [HL.out]; omega)] at this
        exact hasT_no this
      subst htt
      go_wp2
      go_ret
      exact ⟨rfl, rfl⟩
set_option maxRecDepth 100000 in
set_option maxHeartbeats 400000 in
theorem rhas_any (v : Value) (xs : List ByteArray) (s : ByteArray) (w : World) (h : SlV w v (xs.map sv)) : Calls Try.prog 31 #[v, .string s] w fun e w' => e = .returned (.bool (hasT xs s)) ∧ w = w' := by
  obtain ⟨A, c, rfl, hlc, hcm, hR⟩ := h.len
  rw [List.length_map] at hlc hR ⊢
  have HR := Lib.hid hR
  unfold maxLen at hcm
  obtain ⟨l, hl⟩ : ∃ l, xs.length = l := ⟨_, rfl⟩
  rw [hl] at hlc ⊢
  have HL := Lib.hid hl
  obtain ⟨t, ht⟩ : ∃ t, hasT xs s = t := ⟨_, rfl⟩
  rw [ht]
  have HT := Lib.hid ht
  clear h hR hl ht
  go_enter Try.func31, Try.ntmps31
  go_wp2
  go_loop [5] (fun i => ∃ k : Nat, k ≤ l ∧ i = .int .i64 k ∧ s ∉ xs.take k) (fun i => l - (intOf i).toNat)
  case atStart => exact ⟨0, Nat.zero_le _, rfl, by simp⟩
  case round =>
    obtain ⟨k, hk, rfl, hno⟩ := hrel
    have HNO := Lib.hid hno
    clear hno
    by_cases hlt : k < l
    · have hkl : k < xs.length := by rw [HL.out]; exact hlt
      obtain ⟨ad, rfl, hcell⟩ := texts_at HR.out k hkl
      have HX := Lib.hid (show xs.take (k + 1) = xs.take k ++ [xs[k]] from List.take_succ_eq_append_getElem hkl)
      have HMEM := Lib.hid (show xs[k] ∈ xs from List.getElem_mem hkl)
      generalize xs[k] = x at *
      clear hkl
      by_cases he : x = s
      · subst he
        have htt : t = true := by rw [← HT.out]; exact hasT_yes HMEM.out
        subst htt
        go_wp2
        go_ret
        exact ⟨rfl, rfl⟩
      · have hne := toList_ne he
        go_wp2
        go_round
        case rel =>
          refine ⟨k + 1, by omega, by go_num, ?_⟩
          rw [HX.out, List.mem_append, List.mem_singleton]
          rintro (hh | hh)
          · exact HNO.out hh
          · exact he hh.symm
        case measure => simp [intOf]; omega
    · have htt : t = false := by
        rw [← HT.out]
        have := HNO.out
        rw [List.take_of_length_le (by rw [HL.out]; omega)] at this
        exact hasT_no this
      subst htt
      go_wp2
      go_ret
      exact ⟨rfl, rfl⟩

set_option maxRecDepth 100000 in
set_option maxHeartbeats 400000 in
theorem texts_same (v v' : Value) (xs : List ByteArray) (w : World) (h : SlV w v (xs.map sv)) (h' : SlV w v' (xs.map sv)) : Calls Try.prog 24 #[v, v'] w (Yes w) := by
  obtain ⟨A, c, rfl, hlc, hcm, hR⟩ := h.len
  obtain ⟨A', c', rfl, hlc', hcm', hR'⟩ := h'.len
  rw [List.length_map] at hlc hR hlc' hR' ⊢
  have HR := Lib.hid hR
  have HR' := Lib.hid hR'
  unfold maxLen at hcm hcm'
  obtain ⟨l, hl⟩ : ∃ l, xs.length = l := ⟨_, rfl⟩
  rw [hl] at hlc hlc' ⊢
  have HL := Lib.hid hl
  clear h h' hR hR' hl
  go_enter Try.func24, Try.ntmps24
  go_wp2
  go_loopw [5] (fun i wr => ∃ k : Nat, k ≤ l ∧ i = .int .i64 k ∧ Below w.heap.size w wr) (fun i _ => l - (intOf i).toNat)
  case atStart => exact ⟨0, Nat.zero_le _, rfl, Below.refl _ _⟩
  case round =>
    obtain ⟨k, hk, rfl, hb⟩ := hrel
    have HB := Lib.hid hb
    clear hb
    by_cases hlt : k < l
    · have hkl : k < xs.length := by rw [HL.out]; exact hlt
      obtain ⟨ad, rfl, hcell⟩ := texts_at ((HR.out.below HB.out).more HB.out.size) k hkl
      obtain ⟨ad', rfl, hcell'⟩ := texts_at ((HR'.out.below HB.out).more HB.out.size) k hkl
      generalize xs[k] = x at *
      clear hkl
      have z0 : (0 : Int) ≤ (k : Int) := by omega
      have z1 : (k : Int) < (l : Int) := by omega
      go_wp2_with fail
      go_quiet (fail)
      go_wp2
      go_roundw
      case rel => exact ⟨k + 1, by omega, by go_num, below_drewN HB.out _⟩
      case measure => simp [intOf]; omega
    · go_wp2
      go_ret
      exact ⟨rfl, HB.out⟩

set_option maxRecDepth 100000 in
set_option maxHeartbeats 400000 in
theorem copyt_any (v : Value) (xs : List ByteArray) (w : World) (h : SlV w v (xs.map sv)) (hn : xs.length ≤ 2000000) : Calls Try.prog 23 #[v] w (TextsPost w xs) := by
  obtain ⟨A, c, rfl, hlc, hcm, hR⟩ := (h.below ((Below.refl w.heap.size w).alloc (Nat.le_refl _) (.cells #[] 9))).len
  rw [List.length_map] at hlc hR ⊢
  have hown : OwnV 9 (w.alloc (.cells #[] 9)) w.heap.size (.slice (some ⟨w.heap.size, 0, none⟩) 0 0) ([].map sv) := World.ownsRow_made w #[] 0 (Nat.le_refl _) (by unfold maxLen; omega) rfl
  obtain ⟨l, hl⟩ : ∃ l, xs.length = l := ⟨_, rfl⟩
  rw [hl] at hR hn ⊢
  have hsm : ([] : List ByteArray).length + l ≤ 2000000 := by simpa using hn
  have hz : w.heap.size ≤ (w.alloc (.cells #[] 9)).heap.size := by simp
  have HR := Lib.hid hR
  have HOWN := Lib.hid hown
  clear hR hown hl h hlc hcm
  go_enter Try.func23, Try.ntmps23
  go_wp2_with (at_builtin; refine append_texts rfl (.tmp 3) (.tmp 4) rfl _ w.heap.size (.slice (some ⟨w.heap.size, 0, none⟩) 0 0) [] rfl HOWN.out _ A l c xs rfl HR.out hsm hz ?_; intro v3 w3 ho3 hb3; have HO := Lib.hid ho3; have HB := Lib.hid hb3; clear ho3 hb3)
  go_ret
  refine ⟨v3, rfl, ?_, ((Below.refl _ _).alloc (Nat.le_refl _) _).trans HB.out⟩
  simpa using HO.out

theorem flag_any (b : Bool) (w : World) : Calls Try.prog 32 #[.bool b] w fun e w' => e = .returned (.int .i64 (if b then 1 else 0)) ∧ w = w' := by
  cases b
  · go_enter Try.func32, Try.ntmps32
    go_wp2
    go_ret
    exact ⟨rfl, rfl⟩
  · go_enter Try.func32, Try.ntmps32
    go_wp2
    go_ret
    exact ⟨rfl, rfl⟩
end Go.Proofs.Ythopfbkkjfnhkaa
