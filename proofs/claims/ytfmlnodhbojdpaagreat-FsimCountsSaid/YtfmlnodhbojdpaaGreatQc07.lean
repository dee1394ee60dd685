/- Texts put together: Fx0, Fx1. -/
import Derived.Test.YtfmlnodhbojdpaaGreatQc03
import Derived.Test.YtfmlnodhbojdpaaGreatQc06
import Derived.Test.YtfmlnodhbojdpaaGreatQc05
/- The file system's rows, changes and events in memory, as the reference keeps them. -/
namespace Go.Proofs.YtfmlnodhbojdpaaGreat.Tx
open Go.RowKit Go.Proofs.YtfmlnodhbojdpaaGreat.Sh

/-- Bytes in blocks of F. -/
def By (F : Nat → Prop) (w : World) (v : Value) (bs : List UInt8) : Prop := Rd F w 1 v bs.length (bs.map bv)
def rowC (r : RowM) (d : Value) : List Value := [.string (str r.path), iv r.f.mode, d, iv r.f.time]
def rowsC (R : List RowM) (ds : List Value) : List Value := (List.zipWith rowC R ds).flatten
/-- Each one's data: bytes in blocks of F. -/
def Datas (F : Nat → Prop) (w : World) (ds : List Value) (bss : List (List UInt8)) : Prop := ds.length = bss.length ∧ ∀ (i : Nat) (d : Value) (bs : List UInt8), ds[i]? = some d → bss[i]? = some bs → By F w d bs
def RowsIn (F : Nat → Prop) (w : World) (v : Value) (R : List RowM) : Prop := ∃ ds, Rd F w 4 v R.length (rowsC R ds) ∧ Datas F w ds (R.map fun r => r.f.data)

theorem flat_at {α : Type} {m : Nat} : ∀ {l : List (List α)}, (∀ x ∈ l, x.length = m) → ∀ (k : Nat) (x : List α), l[k]? = some x → ∀ (j : Nat) (u : α), x[j]? = some u → l.flatten[k * m + j]? = some u
  | [], _, k, x, h, _, _, _ => by simp at h
  | y :: r, hl, 0, x, h, j, u, hu => by
    simp at h
    subst h
    rw [List.flatten_cons, Nat.zero_mul, Nat.zero_add, List.getElem?_append_left (List.getElem?_eq_some_iff.1 hu).1]
    exact hu
  | y :: r, hl, k + 1, x, h, j, u, hu => by
    have hy : y.length = m := hl y List.mem_cons_self
    rw [List.getElem?_cons_succ] at h
    rw [List.flatten_cons, List.getElem?_append_right (by rw [hy, Nat.add_mul]; omega), hy, show (k + 1) * m + j - m = k * m + j from by rw [Nat.add_mul]; omega]
    exact flat_at (fun z hz => hl z (List.mem_cons_of_mem _ hz)) k x h j u hu
theorem zip_at {α β γ : Type} {f : α → β → γ} {l : List α} {m : List β} {k : Nat} {a : α} {b : β} (h1 : l[k]? = some a) (h2 : m[k]? = some b) : (List.zipWith f l m)[k]? = some (f a b) := by
  rw [List.getElem?_zipWith, h1, h2]
theorem rowsC_at {R : List RowM} {ds : List Value} {k : Nat} {r : RowM} {d : Value} (h1 : R[k]? = some r) (h2 : ds[k]? = some d) (j : Nat) (u : Value) (hu : (rowC r d)[j]? = some u) : (rowsC R ds)[k * 4 + j]? = some u := by
  refine flat_at (m := 4) (fun x hx => ?_) k _ (zip_at h1 h2) j u hu
  obtain ⟨i, hi, e⟩ := List.getElem_of_mem hx
  rw [List.getElem_zipWith] at e
  rw [← e]
  rfl
theorem rowsC_length {R : List RowM} {ds : List Value} (h : ds.length = R.length) : (rowsC R ds).length = R.length * 4 := by
  unfold rowsC
  rw [List.length_flatten]
  have : (List.zipWith rowC R ds).map List.length = List.replicate R.length 4 := by
    apply List.ext_getElem
    · simp [h]
    · intro i h1 h2
      simp [rowC]
  rw [this, List.sum_replicate_nat]
theorem rowsC_one {R : List RowM} {ds : List Value} (hd : ∀ d ∈ ds, d.oneCell' = true) : ∀ u ∈ rowsC R ds, u.oneCell' = true := by
  intro u hu
  unfold rowsC at hu
  obtain ⟨x, hx, hux⟩ := List.mem_flatten.1 hu
  obtain ⟨i, hi, e⟩ := List.getElem_of_mem hx
  rw [List.getElem_zipWith] at e
  rw [← e] at hux
  simp only [rowC, List.mem_cons, List.not_mem_nil, or_false] at hux
  rcases hux with rfl | rfl | rfl | rfl
  · rfl
  · rfl
  · exact hd _ (List.getElem_mem _)
  · rfl
theorem By.slice {F : Nat → Prop} {w : World} {v : Value} {bs : List UInt8} (h : By F w v bs) : ∃ A c, v = .slice A bs.length c ∧ bs.length ≤ c ∧ c ≤ maxLen := by
  obtain ⟨A, c, h1, h2, h3, _⟩ := h
  exact ⟨A, c, h1, h2, h3⟩
theorem By.one {F : Nat → Prop} {w : World} {v : Value} {bs : List UInt8} (h : By F w v bs) : v.oneCell' = true := by
  obtain ⟨A, c, rfl, _⟩ := h
  rfl
theorem By.only {F M : Nat → Prop} {w w' : World} {v : Value} {bs : List UInt8} (h : By F w v bs) (ho : Only M w w') (hd : ∀ k, F k → ¬ M k) : By F w' v bs := Rd.only h ho hd
theorem By.mono {F F' : Nat → Prop} {w : World} {v : Value} {bs : List UInt8} (h : By F w v bs) (hF : ∀ k, k < w.heap.size → F k → F' k) : By F' w v bs := Rd.mono h hF
theorem Datas.only {F M : Nat → Prop} {w w' : World} {ds : List Value} {bss : List (List UInt8)} (h : Datas F w ds bss) (ho : Only M w w') (hd : ∀ k, F k → ¬ M k) : Datas F w' ds bss :=
  ⟨h.1, fun i d bs h1 h2 => (h.2 i d bs h1 h2).only ho hd⟩
theorem Datas.mono {F F' : Nat → Prop} {w : World} {ds : List Value} {bss : List (List UInt8)} (h : Datas F w ds bss) (hF : ∀ k, k < w.heap.size → F k → F' k) : Datas F' w ds bss :=
  ⟨h.1, fun i d bs h1 h2 => (h.2 i d bs h1 h2).mono hF⟩
theorem Datas.one {F : Nat → Prop} {w : World} {ds : List Value} {bss : List (List UInt8)} (h : Datas F w ds bss) : ∀ d ∈ ds, d.oneCell' = true := by
  intro d hd
  obtain ⟨i, hi, rfl⟩ := List.getElem_of_mem hd
  exact (h.2 i _ _ (List.getElem?_eq_getElem hi) (List.getElem?_eq_getElem (by rw [← h.1]; exact hi))).one
theorem Datas.snoc {F : Nat → Prop} {w : World} {ds : List Value} {bss : List (List UInt8)} {d : Value} {bs : List UInt8} (h : Datas F w ds bss) (hd : By F w d bs) : Datas F w (ds ++ [d]) (bss ++ [bs]) := by
  refine ⟨by simp [h.1], fun i e b h1 h2 => ?_⟩
  by_cases hi : i < ds.length
  · rw [List.getElem?_append_left hi] at h1
    rw [List.getElem?_append_left (by rw [← h.1]; exact hi)] at h2
    exact h.2 i e b h1 h2
  · have hi2 : i = ds.length := by
      have := (List.getElem?_eq_some_iff.1 h1).1
      simp at this
      omega
    subst hi2
    rw [List.getElem?_append_right (Nat.le_refl _), Nat.sub_self] at h1
    rw [List.getElem?_append_right (by rw [h.1]; exact Nat.le_refl _), h.1, Nat.sub_self] at h2
    simp at h1 h2
    subst h1 h2
    exact hd
theorem Datas.app {F : Nat → Prop} {w : World} {ds es : List Value} {bss css : List (List UInt8)} (h : Datas F w ds bss) (h2 : Datas F w es css) : Datas F w (ds ++ es) (bss ++ css) := by
  refine ⟨by simp [h.1, h2.1], fun i e b h3 h4 => ?_⟩
  by_cases hi : i < ds.length
  · rw [List.getElem?_append_left hi] at h3
    rw [List.getElem?_append_left (by rw [← h.1]; exact hi)] at h4
    exact h.2 i e b h3 h4
  · rw [List.getElem?_append_right (by omega)] at h3
    rw [List.getElem?_append_right (by rw [← h.1]; omega), ← h.1] at h4
    exact h2.2 _ e b h3 h4
theorem Datas.nil_ {F : Nat → Prop} {w : World} : Datas F w [] [] := ⟨rfl, fun i d bs h => by simp at h⟩
theorem Datas.at_ {F : Nat → Prop} {w : World} {ds : List Value} {bss : List (List UInt8)} (h : Datas F w ds bss) {i : Nat} {bs : List UInt8} (hi : bss[i]? = some bs) : ∃ d, ds[i]? = some d ∧ By F w d bs := by
  have hl : i < ds.length := by rw [h.1]; exact (List.getElem?_eq_some_iff.1 hi).1
  exact ⟨ds[i], List.getElem?_eq_getElem hl, h.2 i _ _ (List.getElem?_eq_getElem hl) hi⟩
theorem RowsIn.only {F M : Nat → Prop} {w w' : World} {v : Value} {R : List RowM} (h : RowsIn F w v R) (ho : Only M w w') (hd : ∀ k, F k → ¬ M k) : RowsIn F w' v R := by
  obtain ⟨ds, h1, h2⟩ := h
  exact ⟨ds, h1.only ho hd, h2.only ho hd⟩
theorem RowsIn.mono {F F' : Nat → Prop} {w : World} {v : Value} {R : List RowM} (h : RowsIn F w v R) (hF : ∀ k, k < w.heap.size → F k → F' k) : RowsIn F' w v R := by
  obtain ⟨ds, h1, h2⟩ := h
  exact ⟨ds, h1.mono hF, h2.mono hF⟩
theorem RowsIn.below {F : Nat → Prop} {w w' : World} {v : Value} {R : List RowM} (h : RowsIn F w v R) (hb : Below w.heap.size w w') : RowsIn F w' v R := h.only (Only.of_below (M := fun _ => False) hb) (fun _ _ => id)
theorem RowsIn.drewN {F : Nat → Prop} {w : World} {v : Value} {R : List RowM} (h : RowsIn F w v R) (k : Nat) : RowsIn F (w.drewN k) v R := h
theorem RowsIn.nil_ (F : Nat → Prop) (w : World) : RowsIn F w (.slice none 0 0) [] := ⟨[], Rd.nil_ F w 4, Datas.nil_⟩
theorem RowsIn.slice {F : Nat → Prop} {w : World} {v : Value} {R : List RowM} (h : RowsIn F w v R) : ∃ A c, v = .slice A R.length c ∧ R.length ≤ c ∧ c ≤ maxLen := by
  obtain ⟨ds, ⟨A, c, h1, h2, h3, _⟩, _⟩ := h
  exact ⟨A, c, h1, h2, h3⟩
/-- A row's cells, as the walk spells their places. -/
theorem RowsIn.at_ {F : Nat → Prop} {w : World} {A : Option Addr} {n c : Nat} {R : List RowM} (h : RowsIn F w (.slice A n c) R) (k : Nat) (r : RowM) (hk : R[k]? = some r) :
    ∃ (ad : Addr) (d : Value), A = some ad ∧ By F w d r.f.data ∧ w.cell? (ad.add (k * 4)) = some (.string (str r.path)) ∧ w.cell? ⟨(ad.add (k * 4)).block, (ad.add (k * 4)).off + 1, none⟩ = some (.int .i64 r.f.mode) ∧
      w.cell? ⟨(ad.add (k * 4)).block, (ad.add (k * 4)).off + 2, none⟩ = some d ∧ w.cell? ⟨(ad.add (k * 4)).block, (ad.add (k * 4)).off + 3, none⟩ = some (.int .i64 r.f.time) := by
  obtain ⟨ds, ⟨A', c', hv, _, _, _, _, h5⟩, hd⟩ := h
  injection hv with e1 e2 e3
  subst e1
  have hkl := (List.getElem?_eq_some_iff.1 hk).1
  obtain ⟨ad, hA, _, _, hc⟩ := h5 (by omega)
  obtain ⟨d, hdk, hby⟩ := hd.at_ (i := k) (bs := r.f.data) (by rw [List.getElem?_map, hk]; rfl)
  refine ⟨ad, d, hA, hby, ?_, ?_, ?_, ?_⟩
  · have := hc (k * 4 + 0) _ (rowsC_at hk hdk 0 _ rfl)
    exact this
  · have := hc (k * 4 + 1) _ (rowsC_at hk hdk 1 _ rfl)
    rw [add_field _ _ 1 (by omega)] at this
    exact this
  · have := hc (k * 4 + 2) _ (rowsC_at hk hdk 2 _ rfl)
    rw [add_field _ _ 2 (by omega)] at this
    exact this
  · have := hc (k * 4 + 3) _ (rowsC_at hk hdk 3 _ rfl)
    rw [add_field _ _ 3 (by omega)] at this
    exact this
end Go.Proofs.YtfmlnodhbojdpaaGreat.Tx
/- The reference's file system: find, used, may. -/
namespace Go.Proofs.YtfmlnodhbojdpaaGreat.Tx
open Go.RowKit Go.Proofs.YtfmlnodhbojdpaaGreat.Sh

def findZ (R : List RowM) (p : List UInt8) : Int := match findM R p with
  | none => -1
  | some i => (i : Int)
theorem find_hit {R : List RowM} {p : List UInt8} {k : Nat} {r : RowM} (hk : R[k]? = some r) (he : r.path = p) (hno : ∀ (j : Nat) (x : RowM), j < k → R[j]? = some x → x.path ≠ p) : findM R p = some k := by
  unfold findM
  obtain ⟨hl, e⟩ := List.getElem?_eq_some_iff.1 hk
  rw [List.findIdx?_eq_some_iff_getElem]
  refine ⟨hl, by rw [e, he]; exact beq_self_eq_true p, fun j hj => ?_⟩
  have := hno j _ hj (List.getElem?_eq_getElem (by omega))
  simpa using this
theorem find_none {R : List RowM} {p : List UInt8} (hno : ∀ (j : Nat) (x : RowM), R[j]? = some x → x.path ≠ p) : findM R p = none := by
  unfold findM
  rw [List.findIdx?_eq_none_iff]
  intro x hx
  obtain ⟨i, hi, rfl⟩ := List.getElem_of_mem hx
  simpa using hno i _ (List.getElem?_eq_getElem hi)
theorem str_ne {a b : List UInt8} (h : a ≠ b) : ((str a).toList == (str b).toList) = false := by rw [str_toList, str_toList]; exact list_other h
theorem str_eq' {a b : List UInt8} (h : a = b) : ((str a).toList == (str b).toList) = true := by subst h; exact beq_self_eq_true _

set_option maxRecDepth 100000 in
set_option maxHeartbeats 400000 in
theorem rfind_any (F : Nat → Prop) (v : Value) (R : List RowM) (p : List UInt8) (w : World) (h : RowsIn F w v R) : Calls Tryz.prog 150 #[v, .string (str p)] w fun e w' => e = .returned (.int .i64 (findZ R p)) ∧ w = w' := by
  obtain ⟨A, c, rfl, hlc, hcm⟩ := h.slice
  unfold maxLen at hcm
  have H := Lib.hid h
  obtain ⟨n, hN⟩ : ∃ n, R.length = n := ⟨_, rfl⟩
  rw [hN] at hlc H ⊢
  have HN := Lib.hid hN
  clear h hN
  go_enter Tryz.func150, Tryz.ntmps150
  go_wp2
  go_loop [5] (fun i => ∃ k : Nat, k ≤ n ∧ i = .int .i64 k ∧ ∀ (j : Nat) (x : RowM), j < k → R[j]? = some x → x.path ≠ p) (fun i => n - (intOf i).toNat)
  case atStart => exact ⟨0, Nat.zero_le _, rfl, fun j x hj => by omega⟩
  case round =>
    obtain ⟨k, hk, rfl, hno⟩ := hrel
    have HNO := Lib.hid hno
    have k0 : (0 : Int) ≤ (k : Int) := by omega
    clear hno
    by_cases hlt : k < n
    · have k1 : (k : Int) < (n : Int) := by omega
      obtain ⟨r, hr⟩ : ∃ r, R[k]? = some r := ⟨_, List.getElem?_eq_getElem (by rw [HN.out]; exact hlt)⟩
      obtain ⟨ad, d, rfl, _, hc0, _, _, _⟩ := H.out.at_ k r hr
      have HR := Lib.hid hr
      clear hr
      by_cases he : r.path = p
      · have e1 := str_eq' he
        have hz : findZ R p = (k : Int) := by unfold findZ; rw [find_hit HR.out he HNO.out]
        have HZ := Lib.hid hz
        clear hz he
        go_wp2
        go_ret
        exact ⟨by rw [HZ.out]; rfl, rfl⟩
      · have e1 := str_ne he
        go_wp2
        go_round
        case rel =>
          refine ⟨k + 1, by omega, by go_num, fun j x hj hx => ?_⟩
          by_cases e : j = k
          · subst e; rw [HR.out] at hx; injection hx with hx; rw [← hx]; exact he
          · exact HNO.out j x (by omega) hx
        case measure => simp [intOf]; omega
    · have hz : findZ R p = -1 := by
        unfold findZ
        rw [find_none fun j x hx => HNO.out j x (by have := (List.getElem?_eq_some_iff.1 hx).1; rw [HN.out] at this; omega) hx]
      have HZ := Lib.hid hz
      clear hz
      go_wp2
      go_ret
      exact ⟨by rw [HZ.out]; rfl, rfl⟩

theorem used_take {R : List RowM} {k : Nat} {r : RowM} (h : R[k]? = some r) : usedM (R.take (k + 1)) = usedM (R.take k) + r.f.data.length := by
  obtain ⟨hl, e⟩ := List.getElem?_eq_some_iff.1 h
  unfold usedM
  rw [List.take_succ_eq_append_getElem hl, e, List.map_append, List.sum_append_nat]
  simp
theorem used_le (R : List RowM) (k : Nat) : usedM (R.take k) ≤ usedM R := by
  unfold usedM
  have h : (R.map fun r => r.f.data.length) = (R.take k).map (fun r => r.f.data.length) ++ (R.drop k).map (fun r => r.f.data.length) := by rw [← List.map_append, List.take_append_drop]
  rw [h, List.sum_append_nat]
  omega
set_option maxRecDepth 100000 in
set_option maxHeartbeats 400000 in
theorem rused_any (F : Nat → Prop) (v : Value) (R : List RowM) (w : World) (h : RowsIn F w v R) (hu : usedM R ≤ 4000000000000) : Calls Tryz.prog 149 #[v] w fun e w' => e = .returned (.int .i64 (usedM R : Int)) ∧ w = w' := by
  obtain ⟨A, c, rfl, hlc, hcm⟩ := h.slice
  unfold maxLen at hcm
  have H := Lib.hid h
  obtain ⟨n, hN⟩ : ∃ n, R.length = n := ⟨_, rfl⟩
  rw [hN] at hlc H ⊢
  have HN := Lib.hid hN
  clear h hN
  go_enter Tryz.func149, Tryz.ntmps149
  go_wp2
  go_loop [3, 4] (fun s i => ∃ k : Nat, k ≤ n ∧ i = .int .i64 k ∧ s = .int .i64 (usedM (R.take k) : Int)) (fun _ i => n - (intOf i).toNat)
  case atStart => exact ⟨0, Nat.zero_le _, rfl, rfl⟩
  case round =>
    obtain ⟨k, hk, rfl, rfl⟩ := hrel
    have k0 : (0 : Int) ≤ (k : Int) := by omega
    have hle := used_le R k
    by_cases hlt : k < n
    · have k1 : (k : Int) < (n : Int) := by omega
      obtain ⟨r, hr⟩ : ∃ r, R[k]? = some r := ⟨_, List.getElem?_eq_getElem (by rw [HN.out]; exact hlt)⟩
      obtain ⟨ad, d, rfl, hby, _, _, hc2, _⟩ := H.out.at_ k r hr
      obtain ⟨Ad, cd, rfl, hdc, hdm⟩ := hby.slice
      have hnx := used_take hr
      have hle2 := used_le R (k + 1)
      obtain ⟨s, hs⟩ : ∃ s, usedM (R.take k) = s := ⟨_, rfl⟩
      obtain ⟨m, hm⟩ : ∃ m, r.f.data.length = m := ⟨_, rfl⟩
      rw [hs, hm] at hnx
      rw [hs] at hle ⊢
      rw [hm] at hc2 hdc
      unfold maxLen at hdm
      have HNX := Lib.hid hnx
      have s0 : (0 : Int) ≤ (s : Int) := by omega
      have s1 : (s : Int) ≤ 4000000000000 := by omega
      have m0 : (0 : Int) ≤ (m : Int) := by omega
      have m1 : (m : Int) ≤ 4000000000000 := by omega
      clear hnx hs hm hr hby hle hle2 hu
      go_wp2
      go_round
      case rel => exact ⟨k + 1, by omega, by go_num, by rw [HNX.out]; go_num⟩
      case measure => simp [intOf]; omega
    · have hT : R.take k = R := List.take_of_length_le (by rw [HN.out]; omega)
      rw [hT]
      clear hT hle hu
      go_wp2
      go_ret
      exact ⟨rfl, rfl⟩
end Go.Proofs.YtfmlnodhbojdpaaGreat.Tx
