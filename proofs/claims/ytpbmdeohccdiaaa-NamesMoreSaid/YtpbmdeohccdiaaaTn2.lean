/- The reference's Path, Split. -/
import Derived.Test.YtpbmdeohccdiaaaTn1
namespace Go.Proofs.Ytpbmdeohccdiaaa.Tx
open Go.RowKit Go.Proofs.Ytpbmdeohccdiaaa.Sh

def BoolPost (w : World) (t : Bool) (e : Ending) (w' : World) : Prop := e = .returned (.bool t) ∧ Below w.heap.size w w'
theorem piece_len {g : UInt8} : ∀ {s p : List UInt8}, p ∈ splitL g s → p.length ≤ s.length
  | [], p, h => by simp [splitL] at h; subst h; simp
  | c :: r, p, h => by
    by_cases hc : c = g
    · subst hc
      rw [splitL_sign] at h
      rcases List.mem_cons.1 h with rfl | h
      · simp
      · have := piece_len h; simp; omega
    · obtain ⟨q, qs, e1, e2⟩ := splitL_cons_ne hc r
      rw [e2] at h
      rcases List.mem_cons.1 h with rfl | h
      · have := piece_len (s := r) (p := q) (by rw [e1]; exact List.mem_cons_self)
        simp; omega
      · have := piece_len (s := r) (p := p) (by rw [e1]; exact List.mem_cons_of_mem _ h)
        simp; omega
theorem pathB_long {s : List UInt8} (h : 200 < s.length) : pathB s = false := by
  unfold pathB
  simp [show ¬ (s.length ≤ 200) from by omega]
theorem pathB_bad {s : List UInt8} {k : Nat} (hk : k < (splitL 47 s).length) (h : nameB (splitL 47 s)[k] = false) : pathB s = false := by
  unfold pathB
  have : (splitL 47 s).all nameB = false := by
    rw [List.all_eq_false]
    exact ⟨_, List.getElem_mem hk, by rw [h]; decide⟩
  rw [this, Bool.and_false, Bool.false_and]
theorem pathB_good {s : List UInt8} (h1 : s.length ≤ 200) (h : ∀ (k : Nat) (hk : k < (splitL 47 s).length), nameB (splitL 47 s)[k] = true) : pathB s = decide ((splitL 47 s).length ≤ 8) := by
  unfold pathB
  have : (splitL 47 s).all nameB = true := by
    rw [List.all_eq_true]
    intro x hx
    obtain ⟨i, hi, rfl⟩ := List.getElem_of_mem hx
    exact h i hi
  rw [this]
  simp [h1]
theorem pathB_len {s : List UInt8} (h : pathB s = true) : s.length ≤ 200 := by
  unfold pathB at h
  simp at h
  exact h.1.1
theorem bi47 : bi 47 = 47 := by unfold bi; rfl
theorem sign47 (cs : List UInt8) (w : World) (hn : cs.length ≤ 1000000) : Calls Try.prog 32 #[.string (str cs), .int .u8 47] w (TextsPost w ((splitL 47 cs).map str)) := by
  have h := rsplit_any cs 47 w hn
  rw [bi47] at h
  exact h
theorem piece_at {w : World} {B : Nat} {ps : List (List UInt8)} {A : Option Addr} {n c : Nat} (h : OwnV 9 w B (.slice A n c) ((ps.map str).map sv)) (k : Nat) (hk : k < ps.length) : ∃ ad, A = some ad ∧ w.cell? (ad.add k) = some (.string (str ps[k])) := by
  obtain ⟨A', c', hv, _, _, hr⟩ := h.slv.len
  injection hv with e1 e2 e3
  subst e1
  obtain ⟨ad, h1, h2⟩ := reads_at hr k (sv (str ps[k])) (by rw [List.map_map, List.getElem?_map, List.getElem?_eq_getElem hk]; rfl)
  exact ⟨ad, h1, h2⟩

set_option maxRecDepth 100000 in
set_option maxHeartbeats 1600000 in
theorem rpath_any (cs : List UInt8) (w : World) (hn : cs.length ≤ 1000000) : Calls Try.prog 17 #[.string (str cs)] w (BoolPost w (pathB cs)) := by
  have hsz := str_size cs
  obtain ⟨l, hL⟩ : ∃ l, cs.length = l := ⟨_, rfl⟩
  rw [hL] at hsz hn
  have HL := Lib.hid hL
  have n0 : (0 : Int) ≤ (l : Int) := by omega
  clear hL
  by_cases h1 : 200 < l
  · have HR : Hid (pathB cs = false) := pathB_long (by rw [HL.out]; exact h1)
    have z1 : (200 : Int) < (l : Int) := by omega
    go_enter Try.func17, Try.ntmps17
    go_wp2
    go_ret
    exact ⟨by rw [HR.out]; rfl, Below.refl _ _⟩
  · have z1 : (l : Int) ≤ 200 := by omega
    have h200 : l ≤ 200 := by omega
    clear h1
    go_enter Try.func17, Try.ntmps17
    go_wp2_with fail
    refine (sign47 cs _ (by rw [HL.out]; exact hn)).mono ?_
    rintro e w1 ⟨v, rfl, ho, hb⟩
    obtain ⟨A, c, rfl, hlc, hcm⟩ := ho.length
    obtain ⟨n, hN⟩ : ∃ n, (splitL 47 cs).length = n := ⟨_, rfl⟩
    rw [List.length_map, List.length_map, hN] at ho hlc ⊢
    unfold maxLen at hcm
    have hn201 : n ≤ 201 := by rw [← hN]; have := splitL_length_le 47 cs; rw [HL.out] at this; omega
    have HN := Lib.hid hN
    have HO := Lib.hid ho
    have HB := Lib.hid hb
    clear ho hb hN
    go_wp2_with fail
    go_loop [4] (fun i => ∃ k : Nat, k ≤ n ∧ i = .int .i64 k ∧ ∀ (j : Nat) (hj : j < (splitL 47 cs).length), j < k → nameB (splitL 47 cs)[j] = true) (fun i => n - (intOf i).toNat)
    case atStart => exact ⟨0, by omega, rfl, fun j _ hj => by omega⟩
    case round =>
      obtain ⟨k, hk, rfl, hok⟩ := hrel
      have HOK := Lib.hid hok
      clear hok
      have k0 : (0 : Int) ≤ (k : Int) := by omega
      by_cases hlt : k < n
      · have k1 : (k : Int) < (n : Int) := by omega
        have hkp : k < (splitL 47 cs).length := by rw [HN.out]; exact hlt
        obtain ⟨ad, rfl, hcell⟩ := piece_at HO.out k hkp
        have hpl := piece_len (List.getElem_mem hkp)
        obtain ⟨p, hp⟩ : ∃ p, (splitL 47 cs)[k] = p := ⟨_, rfl⟩
        rw [hp] at hcell hpl
        have HP := Lib.hid hp
        rw [HL.out] at hpl
        clear hp
        go_wp2_with fail
        refine (rname_any p _ (by omega)).mono ?_
        rintro e w2 ⟨rfl, rfl⟩
        obtain ⟨t, ht⟩ : ∃ t, nameB p = t := ⟨_, rfl⟩
        rw [ht]
        have HT := Lib.hid ht
        clear ht
        cases t with
        | false =>
          have HR : Hid (pathB cs = false) := pathB_bad hkp (by rw [HP.out]; exact HT.out)
          go_wp2
          go_ret
          exact ⟨by rw [HR.out]; rfl, HB.out⟩
        | true =>
          go_wp2
          go_round
          case rel =>
            refine ⟨k + 1, by omega, by go_num, fun j hj hjk => ?_⟩
            by_cases e : j = k
            · subst e; rw [HP.out]; exact HT.out
            · exact HOK.out j hj (by omega)
          case measure => simp [intOf]; omega
      · obtain rfl : k = n := by omega
        have HR : Hid (pathB cs = decide (k ≤ 8)) := by
          unfold Hid
          rw [pathB_good (by rw [HL.out]; exact h200) (fun j hj => HOK.out j hj (by rw [HN.out] at hj; exact hj)), HN.out]
        by_cases h8 : k ≤ 8
        · have z8 : (k : Int) ≤ 8 := by omega
          go_wp2
          go_ret
          exact ⟨by rw [HR.out]; simp [h8], HB.out⟩
        · have z8 : (8 : Int) < (k : Int) := by omega
          go_wp2
          go_ret
          exact ⟨by rw [HR.out]; simp [h8]; omega, HB.out⟩

set_option maxRecDepth 100000 in
set_option maxHeartbeats 400000 in
theorem rnames_any (cs : List UInt8) (w : World) (hn : cs.length ≤ 1000000) : Calls Try.prog 20 #[.string (str cs)] w (TextsPost w (if pathB cs = true then (splitL 47 cs).map str else [])) := by
  obtain ⟨t, ht⟩ : ∃ t, pathB cs = t := ⟨_, rfl⟩
  have HT := Lib.hid ht
  rw [ht]
  clear ht
  cases t with
  | false =>
    go_enter Try.func20, Try.ntmps20
    go_wp2_with fail
    refine (rpath_any cs _ hn).mono ?_
    rintro e w1 ⟨rfl, hb⟩
    rw [HT.out]
    have HB := Lib.hid hb
    clear hb
    go_wp2_with fail
    go_ret
    exact ⟨_, rfl, OwnV.nil_ _ _, HB.out⟩
  | true =>
    go_enter Try.func20, Try.ntmps20
    go_wp2_with fail
    refine (rpath_any cs _ hn).mono ?_
    rintro e w1 ⟨rfl, hb⟩
    rw [HT.out]
    have HB := Lib.hid hb
    clear hb
    go_wp2_with fail
    refine (sign47 cs _ hn).mono ?_
    rintro e w2 ⟨v, rfl, ho, hb⟩
    have HO := Lib.hid (ho.base HB.out.size)
    have HB2 := Lib.hid (HB.out.trans (hb.mono HB.out.size))
    clear ho hb
    go_wp2_with fail
    go_ret
    exact ⟨v, rfl, HO.out, HB2.out⟩
end Go.Proofs.Ytpbmdeohccdiaaa.Tx
