/- Texts put together: YFx0. -/
import Derived.Test.YtodlaikemoedfaaQp26
import Derived.Test.YtodlaikemoedfaaQp28
/- The file system's rows, changes and events in memory, as the reference keeps them. -/
namespace Go.Proofs.Ytodlaikemoedfaa.Tx
open Go.RowKit Go.Proofs.Ytodlaikemoedfaa.Sh

/-- Bytes in blocks of F. -/
def By (F : Nat → Prop) (w : World) (v : Value) (bs : List UInt8) : Prop := Rd F w 1 v bs.length (bs.map bv)
def rowC (r : RowM) (d : Value) : List Value := [.string (str r.path), iv r.f.mode, d, iv r.f.time]
def rowsC (R : List RowM) (ds : List Value) : List Value := (List.zipWith rowC R ds).flatten
/-- Each one's data: bytes in blocks of F. -/
def Datas (F : Nat → Prop) (w : World) (ds : List Value) (bss : List (List UInt8)) : Prop := ds.length = bss.length ∧ ∀ (i : Nat) (d : Value) (bs : List UInt8), ds[i]? = some d → bss[i]? = some bs → By F w d bs
def RowsIn (F : Nat → Prop) (w : World) (v : Value) (R : List RowM) : Prop := ∃ ds, Rd F w 4 v R.length (rowsC R ds) ∧ Datas F w ds (R.map fun r => r.f.data)

theorem flat_at {α : Type} {m : Nat} : ∀ {l : List (List α)}, (∀ x ∈ l, x.length = m) → ∀ (k : Nat) (x : List α), l[k]? = some x → ∀ (j : Nat) (u : α), x[j]? = some u → l.flatten[k * m + j]? = some u
  | [], _, k, x, h, _, _, _ => by simp at h
  | y :: r, hl, 0, x, h, j, u, hu => by
    simp at h
    subst h
    rw [List.flatten_cons, Nat.zero_mul, Nat.zero_add, List.getElem?_append_left (List.getElem?_eq_some_iff.1 hu).1]
    exact hu
  | y :: r, hl, k + 1, x, h, j, u, hu => by
    have hy : y.length = m := hl y List.mem_cons_self
    rw [List.getElem?_cons_succ] at h
    rw [List.flatten_cons, List.getElem?_append_right (by rw [hy, Nat.add_mul]; omega), hy, show (k + 1) * m + j - m = k * m + j from by rw [Nat.add_mul]; omega]
    exact flat_at (fun z hz => hl z (List.mem_cons_of_mem _ hz)) k x h j u hu
theorem zip_at {α β γ : Type} {f : α → β → γ} {l : List α} {m : List β} {k : Nat} {a : α} {b : β} (h1 : l[k]? = some a) (h2 : m[k]? = some b) : (List.zipWith f l m)[k]? = some (f a b) := by
  rw [List.getElem?_zipWith, h1, h2]
theorem rowsC_at {R : List RowM} {ds : List Value} {k : Nat} {r : RowM} {d : Value} (h1 : R[k]? = some r) (h2 : ds[k]? = some d) (j : Nat) (u : Value) (hu : (rowC r d)[j]? = some u) : (rowsC R ds)[k * 4 + j]? = some u := by
  refine flat_at (m := 4) (fun x hx => ?_) k _ (zip_at h1 h2) j u hu
  obtain ⟨i, hi, e⟩ := List.getElem_of_mem hx
  rw [List.getElem_zipWith] at e
  rw [← e]
  rfl
theorem By.slice {F : Nat → Prop} {w : World} {v : Value} {bs : List UInt8} (h : By F w v bs) : ∃ A c, v = .slice A bs.length c ∧ bs.length ≤ c ∧ c ≤ maxLen := by
  obtain ⟨A, c, h1, h2, h3, _⟩ := h
  exact ⟨A, c, h1, h2, h3⟩
theorem By.one {F : Nat → Prop} {w : World} {v : Value} {bs : List UInt8} (h : By F w v bs) : v.oneCell' = true := by
  obtain ⟨A, c, rfl, _⟩ := h
  rfl
theorem By.only {F M : Nat → Prop} {w w' : World} {v : Value} {bs : List UInt8} (h : By F w v bs) (ho : Only M w w') (hd : ∀ k, F k → ¬ M k) : By F w' v bs := Rd.only h ho hd
theorem By.mono {F F' : Nat → Prop} {w : World} {v : Value} {bs : List UInt8} (h : By F w v bs) (hF : ∀ k, k < w.heap.size → F k → F' k) : By F' w v bs := Rd.mono h hF
theorem Datas.only {F M : Nat → Prop} {w w' : World} {ds : List Value} {bss : List (List UInt8)} (h : Datas F w ds bss) (ho : Only M w w') (hd : ∀ k, F k → ¬ M k) : Datas F w' ds bss :=
  ⟨h.1, fun i d bs h1 h2 => (h.2 i d bs h1 h2).only ho hd⟩
theorem Datas.mono {F F' : Nat → Prop} {w : World} {ds : List Value} {bss : List (List UInt8)} (h : Datas F w ds bss) (hF : ∀ k, k < w.heap.size → F k → F' k) : Datas F' w ds bss :=
  ⟨h.1, fun i d bs h1 h2 => (h.2 i d bs h1 h2).mono hF⟩
theorem Datas.one {F : Nat → Prop} {w : World} {ds : List Value} {bss : List (List UInt8)} (h : Datas F w ds bss) : ∀ d ∈ ds, d.oneCell' = true := by
  intro d hd
  obtain ⟨i, hi, rfl⟩ := List.getElem_of_mem hd
  exact (h.2 i _ _ (List.getElem?_eq_getElem hi) (List.getElem?_eq_getElem (by rw [← h.1]; exact hi))).one
theorem Datas.app {F : Nat → Prop} {w : World} {ds es : List Value} {bss css : List (List UInt8)} (h : Datas F w ds bss) (h2 : Datas F w es css) : Datas F w (ds ++ es) (bss ++ css) := by
  refine ⟨by simp [h.1, h2.1], fun i e b h3 h4 => ?_⟩
  by_cases hi : i < ds.length
  · rw [List.getElem?_append_left hi] at h3
    rw [List.getElem?_append_left (by rw [← h.1]; exact hi)] at h4
    exact h.2 i e b h3 h4
  · rw [List.getElem?_append_right (by omega)] at h3
    rw [List.getElem?_append_right (by rw [← h.1]; omega), ← h.1] at h4
    exact h2.2 _ e b h3 h4
theorem Datas.nil_ {F : Nat → Prop} {w : World} : Datas F w [] [] := ⟨rfl, fun i d bs h => by simp at h⟩
theorem Datas.at_ {F : Nat → Prop} {w : World} {ds : List Value} {bss : List (List UInt8)} (h : Datas F w ds bss) {i : Nat} {bs : List UInt8} (hi : bss[i]? = some bs) : ∃ d, ds[i]? = some d ∧ By F w d bs := by
  have hl : i < ds.length := by rw [h.1]; exact (List.getElem?_eq_some_iff.1 hi).1
  exact ⟨ds[i], List.getElem?_eq_getElem hl, h.2 i _ _ (List.getElem?_eq_getElem hl) hi⟩
theorem RowsIn.only {F M : Nat → Prop} {w w' : World} {v : Value} {R : List RowM} (h : RowsIn F w v R) (ho : Only M w w') (hd : ∀ k, F k → ¬ M k) : RowsIn F w' v R := by
  obtain ⟨ds, h1, h2⟩ := h
  exact ⟨ds, h1.only ho hd, h2.only ho hd⟩
theorem RowsIn.mono {F F' : Nat → Prop} {w : World} {v : Value} {R : List RowM} (h : RowsIn F w v R) (hF : ∀ k, k < w.heap.size → F k → F' k) : RowsIn F' w v R := by
  obtain ⟨ds, h1, h2⟩ := h
  exact ⟨ds, h1.mono hF, h2.mono hF⟩
theorem RowsIn.below {F : Nat → Prop} {w w' : World} {v : Value} {R : List RowM} (h : RowsIn F w v R) (hb : Below w.heap.size w w') : RowsIn F w' v R := h.only (Only.of_below (M := fun _ => False) hb) (fun _ _ => id)
theorem RowsIn.drewN {F : Nat → Prop} {w : World} {v : Value} {R : List RowM} (h : RowsIn F w v R) (k : Nat) : RowsIn F (w.drewN k) v R := h
theorem RowsIn.nil_ (F : Nat → Prop) (w : World) : RowsIn F w (.slice none 0 0) [] := ⟨[], Rd.nil_ F w 4, Datas.nil_⟩
theorem RowsIn.slice {F : Nat → Prop} {w : World} {v : Value} {R : List RowM} (h : RowsIn F w v R) : ∃ A c, v = .slice A R.length c ∧ R.length ≤ c ∧ c ≤ maxLen := by
  obtain ⟨ds, ⟨A, c, h1, h2, h3, _⟩, _⟩ := h
  exact ⟨A, c, h1, h2, h3⟩
/-- A row's cells, as the walk spells their places. -/
theorem RowsIn.at_ {F : Nat → Prop} {w : World} {A : Option Addr} {n c : Nat} {R : List RowM} (h : RowsIn F w (.slice A n c) R) (k : Nat) (r : RowM) (hk : R[k]? = some r) :
    ∃ (ad : Addr) (d : Value), A = some ad ∧ By F w d r.f.data ∧ w.cell? (ad.add (k * 4)) = some (.string (str r.path)) ∧ w.cell? ⟨(ad.add (k * 4)).block, (ad.add (k * 4)).off + 1, none⟩ = some (.int .i64 r.f.mode) ∧
      w.cell? ⟨(ad.add (k * 4)).block, (ad.add (k * 4)).off + 2, none⟩ = some d ∧ w.cell? ⟨(ad.add (k * 4)).block, (ad.add (k * 4)).off + 3, none⟩ = some (.int .i64 r.f.time) := by
  obtain ⟨ds, ⟨A', c', hv, _, _, _, _, h5⟩, hd⟩ := h
  injection hv with e1 e2 e3
  subst e1
  have hkl := (List.getElem?_eq_some_iff.1 hk).1
  obtain ⟨ad, hA, _, _, hc⟩ := h5 (by omega)
  obtain ⟨d, hdk, hby⟩ := hd.at_ (i := k) (bs := r.f.data) (by rw [List.getElem?_map, hk]; rfl)
  refine ⟨ad, d, hA, hby, ?_, ?_, ?_, ?_⟩
  · have := hc (k * 4 + 0) _ (rowsC_at hk hdk 0 _ rfl)
    exact this
  · have := hc (k * 4 + 1) _ (rowsC_at hk hdk 1 _ rfl)
    rw [add_field _ _ 1 (by omega)] at this
    exact this
  · have := hc (k * 4 + 2) _ (rowsC_at hk hdk 2 _ rfl)
    rw [add_field _ _ 2 (by omega)] at this
    exact this
  · have := hc (k * 4 + 3) _ (rowsC_at hk hdk 3 _ rfl)
    rw [add_field _ _ 3 (by omega)] at this
    exact this
end Go.Proofs.Ytodlaikemoedfaa.Tx
