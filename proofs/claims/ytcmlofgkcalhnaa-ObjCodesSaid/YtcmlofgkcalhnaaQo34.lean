/- Texts put together: Ob11. -/
import Derived.Test.YtcmlofgkcalhnaaQo33
import Derived.IntWalk
/- marlaw6: Few. -/
namespace Go.Proofs.Ytcmlofgkcalhnaa.Ob
open Go.RowKit Go.Proofs.Ytcmlofgkcalhnaa.Sh
open Go.Proofs.Ytcmlofgkcalhnaa.Tx (OwnV SlV sv bl nameB reads_at texts_at toList_ne')

structure FewOk (o : ObM) : Prop where
  items : o.items.length ≤ 400
  parents : o.parents.length ≤ 400
  data : o.data.length ≤ 30000
  tree : o.tree.length ≤ 30000
  msg : o.msg.length ≤ 30000
def FewPost (w : World) (o : ObM) (e : Ending) (w' : World) : Prop := ∃ t, e = .returned (.bool t) ∧ (t = true → FewOk o) ∧ Below w.heap.size w w'
set_option maxRecDepth 100000 in
set_option maxHeartbeats 3200000 in
theorem few_any (v : Value) (o : ObM) (w : World) (h : ObV w v o) : Calls Try.prog 13 #[v] w (FewPost w o) := by
  obtain ⟨d, it, ps, rfl, hd, hi, hp⟩ := h
  obtain ⟨k0, D, I, T, P, st, au, ms⟩ := o
  replace hd : Sl w d D := hd
  replace hi : SlI w it I := hi
  replace hp : SlV w ps ((P.map str).map sv) := hp
  obtain ⟨A, c, rfl, hlc, hcm, _⟩ := hd
  obtain ⟨A2, c2, rfl, hlc2, hcm2, _, hRI⟩ := hi
  obtain ⟨A3, c3, rfl, hlc3, hcm3, hRP⟩ := hp.len
  unfold maxLen at hcm hcm2 hcm3
  simp only [List.length_map] at hlc3 hRP ⊢
  obtain ⟨l, hl⟩ : ∃ l, D.length = l := ⟨_, rfl⟩
  obtain ⟨l2, hl2⟩ : ∃ l, I.length = l := ⟨_, rfl⟩
  obtain ⟨l3, hl3⟩ : ∃ l, P.length = l := ⟨_, rfl⟩
  rw [hl] at hlc ⊢
  rw [hl2] at hlc2 ⊢
  rw [hl3] at hlc3 ⊢
  have hT := str_size T
  have hM := str_size ms
  obtain ⟨lt, hlt⟩ : ∃ l, T.length = l := ⟨_, rfl⟩
  obtain ⟨lm, hlm⟩ : ∃ l, ms.length = l := ⟨_, rfl⟩
  rw [hlt] at hT
  rw [hlm] at hM
  have HF : Hid (l2 ≤ 400 → l3 ≤ 400 → l ≤ 30000 → lt ≤ 30000 → lm ≤ 30000 → FewOk ⟨k0, D, I, T, P, st, au, ms⟩) := fun h1 h2 h3 h4 h5 => ⟨by show I.length ≤ 400; omega, by show P.length ≤ 400; omega, by show D.length ≤ 30000; omega, by show T.length ≤ 30000; omega, by show ms.length ≤ 30000; omega⟩
  have HRI := Lib.hid hRI
  have HRP := Lib.hid hRP
  have HL2 := Lib.hid hl2
  have HL3 := Lib.hid hl3
  have HB1 : Hid (Below w.heap.size w (w.alloc (.cells #[.int .i64 k0, .slice A l c, .slice A2 l2 c2, .string (str T), .slice A3 l3 c3, .int .i64 st, .int .i64 au, .string (str ms)] 32))) := (Below.refl _ _).alloc (Nat.le_refl _) _
  have HK1 : Hid (Blk (w.alloc (.cells #[.int .i64 k0, .slice A l c, .slice A2 l2 c2, .string (str T), .slice A3 l3 c3, .int .i64 st, .int .i64 au, .string (str ms)] 32)) w.heap.size 32 #[.int .i64 k0, .slice A l c, .slice A2 l2 c2, .string (str T), .slice A3 l3 c3, .int .i64 st, .int .i64 au, .string (str ms)]) := Blk.new _ _ _
  clear hl hl2 hl3 hlt hlm hRI hRP hp
  go_enter Try.func13, Try.ntmps13
  go_wp2_with fail
  go_loopw [3, 4] (fun s i wr => ∃ (k : Nat) (z : Int), k ≤ l2 ∧ k ≤ 400 ∧ i = .int .i64 k ∧ s = .int .i64 z ∧ 0 ≤ z ∧ z ≤ 120000 ∧ Below w.heap.size w wr ∧ Blk wr w.heap.size 32 #[.int .i64 k0, .slice A l c, .slice A2 l2 c2, .string (str T), .slice A3 l3 c3, .int .i64 st, .int .i64 au, .string (str ms)]) (fun _ i _ => l2 - (intOf i).toNat)
  case atStart => exact ⟨0, 0, Nat.zero_le _, Nat.zero_le _, rfl, rfl, by omega, by omega, HB1.out, HK1.out⟩
  case round =>
    obtain ⟨k, z, hk, hk4, rfl, rfl, hz0, hz1, hb, hbk⟩ := hrel
    have HB := Lib.hid hb
    have HBK := Lib.hid hbk
    clear hb hbk
    have p0 : (0 : Int) ≤ (k : Int) := by omega
    obtain ⟨-, -, x2, -, -, -, -, -⟩ := box_cells HBK.out
    by_cases hlt : k < l2
    · by_cases h400 : k < 400
      · have hkl : k < I.length := by rw [HL2.out]; exact hlt
        obtain ⟨x, hx⟩ : ∃ x, I[k]? = some x := ⟨_, List.getElem?_eq_getElem hkl⟩
        obtain ⟨ad, rfl, c0, c1, c2'⟩ := items_at (HRI.out.below HB.out) rfl k x hx
        clear c0 hx hkl
        obtain ⟨m, nm, id⟩ := x
        replace c1 : wr.cell? ⟨(ad.add (k * 3)).block, (ad.add (k * 3)).off + 1, none⟩ = some (.string (str nm)) := c1
        replace c2' : wr.cell? ⟨(ad.add (k * 3)).block, (ad.add (k * 3)).off + 2, none⟩ = some (.string (str id)) := c2'
        have p1 : (k : Int) < (l2 : Int) := by omega
        have p2 : (k : Int) < 400 := by omega
        generalize str nm = xn at *
        generalize str id = xi at *
        obtain ⟨nl, hnl⟩ : ∃ nl, xn.size = nl := ⟨_, rfl⟩
        obtain ⟨il, hil⟩ : ∃ il, xi.size = il := ⟨_, rfl⟩
        have hm0 : (0 : Int) ≤ min (nl : Int) 30000 ∧ min (nl : Int) 30000 ≤ 30000 := by omega
        have hm1 : (0 : Int) ≤ min (il : Int) 30000 ∧ min (il : Int) 30000 ≤ 30000 := by omega
        have w1 : IntKind.i64.wrap (z + min (nl : Int) 30000) = z + min (nl : Int) 30000 := IntWalk.i64_in _ (by omega)
        have w2 : IntKind.i64.wrap (z + min (nl : Int) 30000 + min (il : Int) 30000) = z + min (nl : Int) 30000 + min (il : Int) 30000 := IntWalk.i64_in _ (by omega)
        go_wp2_with fail
        go_quiet (fail)
        go_wp2_with fail
        go_roundw
        case rel => exact ⟨k + 1, min (z + min (nl : Int) 30000 + min (il : Int) 30000) 120000, by omega, by omega, by go_num, by go_num, by omega, by omega, below_drewN HB.out _, HBK.out.drewN _⟩
        case measure => simp [intOf]; omega
      · have e4 : decide ((k : Int) < 400) = false := by simp; omega
        have p1 : (k : Int) < (l2 : Int) := by omega
        go_wp2_with fail
        obtain ⟨wo, hwo⟩ : ∃ wo, wo = wr := ⟨_, rfl⟩
        subst hwo
        clear x2
        go_loopw [3, 5] (fun s i wr => ∃ (j : Nat) (z : Int), j ≤ l3 ∧ j ≤ 400 ∧ i = .int .i64 j ∧ s = .int .i64 z ∧ 0 ≤ z ∧ z ≤ 120000 ∧ Below w.heap.size w wr ∧ Blk wr w.heap.size 32 #[.int .i64 k0, .slice A l c, .slice A2 l2 c2, .string (str T), .slice A3 l3 c3, .int .i64 st, .int .i64 au, .string (str ms)]) (fun _ i _ => l3 - (intOf i).toNat)
        case atStart => exact ⟨0, z, Nat.zero_le _, Nat.zero_le _, rfl, rfl, by omega, by omega, HB.out, HBK.out⟩
        case round =>
          obtain ⟨j, y, hj, hj4, rfl, rfl, hy0, hy1, hb, hbk⟩ := hrel
          have HB2 := Lib.hid hb
          have HBK2 := Lib.hid hbk
          clear hb hbk
          have q0 : (0 : Int) ≤ (j : Int) := by omega
          obtain ⟨-, x1, x2, x3, x4, -, -, x7⟩ := box_cells HBK2.out
          by_cases hlt2 : j < l3
          · by_cases h402 : j < 400
            · have hjl : j < P.length := by rw [HL3.out]; exact hlt2
              obtain ⟨ad, rfl, cc⟩ := par_at (HRP.out.below HB2.out) j hjl
              clear hjl
              generalize str (P.getD j []) = xn at *
              obtain ⟨nl, hnl⟩ : ∃ nl, xn.size = nl := ⟨_, rfl⟩
              have q1 : (j : Int) < (l3 : Int) := by omega
              have q2 : (j : Int) < 400 := by omega
              have hm0 : (0 : Int) ≤ min (nl : Int) 30000 ∧ min (nl : Int) 30000 ≤ 30000 := by omega
              have w1 : IntKind.i64.wrap (y + min (nl : Int) 30000) = y + min (nl : Int) 30000 := IntWalk.i64_in _ (by omega)
              clear x1 x2 x3 x7
              go_wp2_with fail
              go_roundw
              case rel => exact ⟨j + 1, min (y + min (nl : Int) 30000) 120000, by omega, by omega, by go_num, by go_num, by omega, by omega, HB2.out, HBK2.out⟩
              case measure => simp [intOf]; omega
            · have HFF : Hid (∀ t : Bool, (t = true → l2 ≤ 400 ∧ l3 ≤ 400 ∧ l ≤ 30000 ∧ lt ≤ 30000 ∧ lm ≤ 30000) → t = true → FewOk ⟨k0, D, I, T, P, st, au, ms⟩) := fun t h1 h2 => HF.out (h1 h2).1 (h1 h2).2.1 (h1 h2).2.2.1 (h1 h2).2.2.2.1 (h1 h2).2.2.2.2
              go_wp2_with fail
              all_goals
                go_ret
                exact ⟨_, rfl, HFF.out _ (fun h => by simp at h <;> omega), HB2.out⟩
          · have HFF : Hid (∀ t : Bool, (t = true → l2 ≤ 400 ∧ l3 ≤ 400 ∧ l ≤ 30000 ∧ lt ≤ 30000 ∧ lm ≤ 30000) → t = true → FewOk ⟨k0, D, I, T, P, st, au, ms⟩) := fun t h1 h2 => HF.out (h1 h2).1 (h1 h2).2.1 (h1 h2).2.2.1 (h1 h2).2.2.2.1 (h1 h2).2.2.2.2
            go_wp2_with fail
            all_goals
              go_ret
              exact ⟨_, rfl, HFF.out _ (fun h => by simp at h <;> omega), HB2.out⟩
    · have p1 : (l2 : Int) ≤ (k : Int) := by omega
      go_wp2_with fail
      obtain ⟨wo, hwo⟩ : ∃ wo, wo = wr := ⟨_, rfl⟩
      subst hwo
      clear x2
      go_loopw [3, 5] (fun s i wr => ∃ (j : Nat) (z : Int), j ≤ l3 ∧ j ≤ 400 ∧ i = .int .i64 j ∧ s = .int .i64 z ∧ 0 ≤ z ∧ z ≤ 120000 ∧ Below w.heap.size w wr ∧ Blk wr w.heap.size 32 #[.int .i64 k0, .slice A l c, .slice A2 l2 c2, .string (str T), .slice A3 l3 c3, .int .i64 st, .int .i64 au, .string (str ms)]) (fun _ i _ => l3 - (intOf i).toNat)
      case atStart => exact ⟨0, z, Nat.zero_le _, Nat.zero_le _, rfl, rfl, by omega, by omega, HB.out, HBK.out⟩
      case round =>
        obtain ⟨j, y, hj, hj4, rfl, rfl, hy0, hy1, hb, hbk⟩ := hrel
        have HB2 := Lib.hid hb
        have HBK2 := Lib.hid hbk
        clear hb hbk
        have q0 : (0 : Int) ≤ (j : Int) := by omega
        obtain ⟨-, x1, x2, x3, x4, -, -, x7⟩ := box_cells HBK2.out
        by_cases hlt2 : j < l3
        · by_cases h402 : j < 400
          · have hjl : j < P.length := by rw [HL3.out]; exact hlt2
            obtain ⟨ad, rfl, cc⟩ := par_at (HRP.out.below HB2.out) j hjl
            clear hjl
            generalize str (P.getD j []) = xn at *
            obtain ⟨nl, hnl⟩ : ∃ nl, xn.size = nl := ⟨_, rfl⟩
            have q1 : (j : Int) < (l3 : Int) := by omega
            have q2 : (j : Int) < 400 := by omega
            have hm0 : (0 : Int) ≤ min (nl : Int) 30000 ∧ min (nl : Int) 30000 ≤ 30000 := by omega
            have w1 : IntKind.i64.wrap (y + min (nl : Int) 30000) = y + min (nl : Int) 30000 := IntWalk.i64_in _ (by omega)
            clear x1 x2 x3 x7
            go_wp2_with fail
            go_roundw
            case rel => exact ⟨j + 1, min (y + min (nl : Int) 30000) 120000, by omega, by omega, by go_num, by go_num, by omega, by omega, HB2.out, HBK2.out⟩
            case measure => simp [intOf]; omega
          · have HFF : Hid (∀ t : Bool, (t = true → l2 ≤ 400 ∧ l3 ≤ 400 ∧ l ≤ 30000 ∧ lt ≤ 30000 ∧ lm ≤ 30000) → t = true → FewOk ⟨k0, D, I, T, P, st, au, ms⟩) := fun t h1 h2 => HF.out (h1 h2).1 (h1 h2).2.1 (h1 h2).2.2.1 (h1 h2).2.2.2.1 (h1 h2).2.2.2.2
            go_wp2_with fail
            all_goals
              go_ret
              exact ⟨_, rfl, HFF.out _ (fun h => by simp at h <;> omega), HB2.out⟩
        · have HFF : Hid (∀ t : Bool, (t = true → l2 ≤ 400 ∧ l3 ≤ 400 ∧ l ≤ 30000 ∧ lt ≤ 30000 ∧ lm ≤ 30000) → t = true → FewOk ⟨k0, D, I, T, P, st, au, ms⟩) := fun t h1 h2 => HF.out (h1 h2).1 (h1 h2).2.1 (h1 h2).2.2.1 (h1 h2).2.2.2.1 (h1 h2).2.2.2.2
          go_wp2_with fail
          all_goals
            go_ret
            exact ⟨_, rfl, HFF.out _ (fun h => by simp at h <;> omega), HB2.out⟩
end Go.Proofs.Ytcmlofgkcalhnaa.Ob
