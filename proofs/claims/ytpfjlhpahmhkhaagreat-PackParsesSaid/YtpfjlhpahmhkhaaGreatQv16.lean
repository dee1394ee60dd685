/- Texts put together: VShR5, VTn3, VTs0, VTs1, VFv1, VMp0, VRc0, VRc1, VRs0. -/
import Derived.Test.YtpfjlhpahmhkhaaGreatQv15
import Derived.Test.YtpfjlhpahmhkhaaGreatQv01
import Derived.Test.YtpfjlhpahmhkhaaGreatQv03
import Derived.Laws.BytesString
import Derived.Test.YtpfjlhpahmhkhaaGreatQv02
import Derived.Maps.OwnSet
import Derived.Maps.OwnOps
import Derived.Maps.StringElems
import Derived.Sort.KeysCollected
import Derived.Test.YtpfjlhpahmhkhaaGreatQv14
/- The reference's ID. -/
namespace Go.Proofs.YtpfjlhpahmhkhaaGreat.Sh
open Go.RowKit
set_option maxHeartbeats 400000 in
theorem rid_any (v : Value) (bs : List UInt8) (w : World) (h : Sl w v bs) (hn : bs.length ≤ 140737488351232) : Calls Tryz.prog 114 #[v] w (StrPost w (hexL (sumOf bs))) := by
 have H := Lib.hid h
 clear h
 go_enter Tryz.func114, Tryz.ntmps114
 go_wp2_with fail
 refine (rsum_any v bs _ H.out hn).mono ?_
 rintro e w1 ⟨v1, rfl, ho, hb⟩
 have HS := Lib.hid ho.sl
 have HB := Lib.hid hb
 clear ho hb
 go_wp2_with fail
 refine (rhex_any v1 (sumOf bs) _ HS.out (by rw [sumOf_length]; omega)).mono ?_
 rintro e w2 ⟨rfl, hb2⟩
 have hz := HB.out.size
 have HB2 := Lib.hid (HB.out.trans (hb2.mono hz))
 clear hb2
 go_wp2_with fail
 go_ret
 exact ⟨rfl, HB2.out⟩
end Go.Proofs.YtpfjlhpahmhkhaaGreat.Sh
/- marref: Has, Texts, CopyTexts. -/
namespace Go.Proofs.YtpfjlhpahmhkhaaGreat.Tx
open Go.RowKit Go.Proofs.YtpfjlhpahmhkhaaGreat.Sh
def Yes (w : World) (e : Ending) (w' : World) : Prop := e = .returned (.bool true) ∧ Below w.heap.size w w'
theorem ba_ext {s t : ByteArray} (h : s.toList = t.toList) : s = t := by
 rw [ByteArray.toList_eq, ByteArray.toList_eq] at h
 exact ByteArray.ext (Array.toList_inj.1 h)
def hasT (xs : List ByteArray) (s : ByteArray) : Bool := xs.any (fun t => t.toList == s.toList)
theorem hasT_yes {xs : List ByteArray} {s : ByteArray} (h : s ∈ xs) : hasT xs s = true := List.any_eq_true.2 ⟨s, h, beq_self_eq_true _⟩
theorem hasT_no {xs : List ByteArray} {s : ByteArray} (h : s ∉ xs) : hasT xs s = false := by
 unfold hasT
 rw [List.any_eq_false]
 intro t ht e
 exact h (by rw [← ba_ext (beq_iff_eq.1 e)]; exact ht)
theorem hasT_iff {xs : List ByteArray} {s : ByteArray} : hasT xs s = true ↔ s ∈ xs := by
 constructor
 ·intro h
  rcases Classical.em (s ∈ xs) with h1 | h1
  ·exact h1
  ·rw [hasT_no h1] at h; cases h
 ·exact hasT_yes
end Go.Proofs.YtpfjlhpahmhkhaaGreat.Tx
/- Texts sorted and merged: plain lists. -/
namespace Go.Proofs.YtpfjlhpahmhkhaaGreat.Tx
open Go.Proofs.YtpfjlhpahmhkhaaGreat.Sh
def tle (s t : ByteArray) : Bool := Op.bytesLess s.toList t.toList || s.toList == t.toList
abbrev Sorted (l : List ByteArray) : Prop := l.Pairwise (fun a b => tle a b = true)
def insT (x : ByteArray) : List ByteArray → List ByteArray
 | [] => [x]
 | y :: l => if tle y x then y :: insT x l else x :: y :: l
def sortT (l : List ByteArray) : List ByteArray := l.foldl (fun acc x => insT x acc) []
def mergeL : List ByteArray → List ByteArray → List ByteArray
 | [], b => b
 | x :: a, [] => x :: a
 | x :: a, y :: b => if tle x y then x :: mergeL a (y :: b) else y :: mergeL (x :: a) b
termination_by a b => a.length + b.length
def passL (s : Nat) (xs : List ByteArray) : List ByteArray :=
 if _h : xs = [] ∨ s = 0 then xs else mergeL (xs.take s) ((xs.drop s).take s) ++ passL s (xs.drop (2 * s))
termination_by xs.length
decreasing_by
 have : 0 < xs.length := List.length_pos_iff.2 (fun e => _h (.inl e))
 rw [List.length_drop]
 have : s ≠ 0 := fun e => _h (.inr e)
 omega
def Runs (s : Nat) (xs : List ByteArray) : Prop := ∀ i, Sorted ((xs.drop (i * s)).take s)
end Go.Proofs.YtpfjlhpahmhkhaaGreat.Tx
/- Each text once: plain lists. -/
namespace Go.Proofs.YtpfjlhpahmhkhaaGreat.Tx
open Go.Proofs.YtpfjlhpahmhkhaaGreat.Sh
abbrev Strict (l : List ByteArray) : Prop := l.Pairwise (fun a b => bl a.toList b.toList = true)
def ddN (ts : List ByteArray) : Nat → List ByteArray
 | 0 => []
 | k + 1 => if k = 0 ∨ (ts[k]?.map (·.toList) == ts[k - 1]?.map (·.toList)) = false then ddN ts k ++ (ts[k]?.toList) else ddN ts k
def uniqT (xs : List ByteArray) : List ByteArray := ddN (sortT xs) (sortT xs).length
end Go.Proofs.YtpfjlhpahmhkhaaGreat.Tx
/- Slices of structs, each with one slice of one-cell values in it (or none): to be read, of one's own, appended to. (No package's code in it; printed by mk_fv1.py.) -/
set_option linter.unusedVariables false
set_option linter.unusedSimpArgs false
namespace Go.Proofs.YtpfjlhpahmhkhaaGreat.Tx
open Go.RowKit Go.Proofs.YtpfjlhpahmhkhaaGreat.Sh
def VsV (F : Nat → Prop) (w : World) (v : Value) (bs : List Value) : Prop := Rd F w 1 v bs.length bs
def VssV (F : Nat → Prop) (w : World) (ds : List Value) (bss : List (List Value)) : Prop := ds.length = bss.length ∧ ∀ (i : Nat) (d : Value) (bs : List Value), ds[i]? = some d → bss[i]? = some bs → VsV F w d bs
theorem flatV_at {α : Type} {m : Nat} : ∀ {l : List (List α)}, (∀ x ∈ l, x.length = m) → ∀ (k : Nat) (x : List α), l[k]? = some x → ∀ (j : Nat) (u : α), x[j]? = some u → l.flatten[k * m + j]? = some u
 | [], _, k, x, h, _, _, _ => by simp at h
 | y :: r, hl, 0, x, h, j, u, hu => by
  simp at h
  subst h
  rw [List.flatten_cons, Nat.zero_mul, Nat.zero_add, List.getElem?_append_left (List.getElem?_eq_some_iff.1 hu).1]
  exact hu
 | y :: r, hl, k + 1, x, h, j, u, hu => by
  have hy : y.length = m := hl y List.mem_cons_self
  rw [List.getElem?_cons_succ] at h
  rw [List.flatten_cons, List.getElem?_append_right (by rw [hy, Nat.add_mul]; omega), hy, show (k + 1) * m + j - m = k * m + j from by rw [Nat.add_mul]; omega]
  exact flatV_at (fun z hz => hl z (List.mem_cons_of_mem _ hz)) k x h j u hu
theorem zipV_at {α β γ : Type} {f : α → β → γ} {l : List α} {m : List β} {k : Nat} {a : α} {b : β} (h1 : l[k]? = some a) (h2 : m[k]? = some b) : (List.zipWith f l m)[k]? = some (f a b) := by
 rw [List.getElem?_zipWith, h1, h2]
theorem VsV.slice {F : Nat → Prop} {w : World} {v : Value} {bs : List Value} (h : VsV F w v bs) : ∃ A c, v = .slice A bs.length c ∧ bs.length ≤ c ∧ c ≤ maxLen := by
 obtain ⟨A, c, h1, h2, h3, _⟩ := h
 exact ⟨A, c, h1, h2, h3⟩
theorem VsV.one {F : Nat → Prop} {w : World} {v : Value} {bs : List Value} (h : VsV F w v bs) : v.oneCell' = true := by
 obtain ⟨A, c, rfl, _⟩ := h
 rfl
theorem VsV.only {F M : Nat → Prop} {w w' : World} {v : Value} {bs : List Value} (h : VsV F w v bs) (ho : Only M w w') (hd : ∀ k, F k → ¬ M k) : VsV F w' v bs := Rd.only h ho hd
theorem VsV.mono {F F' : Nat → Prop} {w : World} {v : Value} {bs : List Value} (h : VsV F w v bs) (hF : ∀ k, k < w.heap.size → F k → F' k) : VsV F' w v bs := Rd.mono h hF
theorem VssV.only {F M : Nat → Prop} {w w' : World} {ds : List Value} {bss : List (List Value)} (h : VssV F w ds bss) (ho : Only M w w') (hd : ∀ k, F k → ¬ M k) : VssV F w' ds bss :=
 ⟨h.1, fun i d bs h1 h2 => (h.2 i d bs h1 h2).only ho hd⟩
theorem VssV.mono {F F' : Nat → Prop} {w : World} {ds : List Value} {bss : List (List Value)} (h : VssV F w ds bss) (hF : ∀ k, k < w.heap.size → F k → F' k) : VssV F' w ds bss :=
 ⟨h.1, fun i d bs h1 h2 => (h.2 i d bs h1 h2).mono hF⟩
theorem VssV.one {F : Nat → Prop} {w : World} {ds : List Value} {bss : List (List Value)} (h : VssV F w ds bss) : ∀ d ∈ ds, d.oneCell' = true := by
 intro d hd
 obtain ⟨i, hi, rfl⟩ := List.getElem_of_mem hd
 exact (h.2 i _ _ (List.getElem?_eq_getElem hi) (List.getElem?_eq_getElem (by rw [← h.1]; exact hi))).one
theorem VssV.nil_ {F : Nat → Prop} {w : World} : VssV F w [] [] := ⟨rfl, fun i d bs h => by simp at h⟩
theorem VssV.app {F : Nat → Prop} {w : World} {ds es : List Value} {bss css : List (List Value)} (h : VssV F w ds bss) (h2 : VssV F w es css) : VssV F w (ds ++ es) (bss ++ css) := by
 refine ⟨by simp [h.1, h2.1], fun i e b h3 h4 => ?_⟩
 by_cases hi : i < ds.length
 ·rw [List.getElem?_append_left hi] at h3
  rw [List.getElem?_append_left (by rw [← h.1]; exact hi)] at h4
  exact h.2 i e b h3 h4
 ·rw [List.getElem?_append_right (by omega)] at h3
  rw [List.getElem?_append_right (by rw [← h.1]; omega), ← h.1] at h4
  exact h2.2 _ e b h3 h4
theorem VssV.at_ {F : Nat → Prop} {w : World} {ds : List Value} {bss : List (List Value)} (h : VssV F w ds bss) {i : Nat} {bs : List Value} (hi : bss[i]? = some bs) : ∃ d, ds[i]? = some d ∧ VsV F w d bs := by
 have hl : i < ds.length := by rw [h.1]; exact (List.getElem?_eq_some_iff.1 hi).1
 exact ⟨ds[i], List.getElem?_eq_getElem hl, h.2 i _ _ (List.getElem?_eq_getElem hl) hi⟩
structure ShapeV where
 α : Type
 cells : α → Value → List Value
 vals : α → List Value
 m : Nat
 pos : 0 < m
 len : ∀ a d, (cells a d).length = m
 one : ∀ a d, d.oneCell' = true → ∀ u ∈ cells a d, u.oneCell' = true
section
variable (K : ShapeV)
def ShCV (l : List K.α) (ds : List Value) : List Value := (List.zipWith K.cells l ds).flatten
def InV (F : Nat → Prop) (w : World) (v : Value) (l : List K.α) : Prop := ∃ ds, Rd F w K.m v l.length (ShCV K l ds) ∧ VssV F w ds (l.map K.vals)
def TmpV (F : Nat → Prop) (w : World) (v : Value) (l : List K.α) : Prop := ∃ ds, Rd (fun _ => True) w K.m v l.length (ShCV K l ds) ∧ VssV F w ds (l.map K.vals)
def OwnS (T : TypeId) (F : Nat → Prop) (w : World) (B : Nat) (v : Value) (l : List K.α) : Prop := (∃ ds, w.ownsRow B T K.m v l.length (ShCV K l ds) ∧ VssV F w ds (l.map K.vals)) ∧ ∀ k, v.ownBlock = some k → ¬ F k
end
section
variable {K : ShapeV} {F F' M : Nat → Prop} {w w' : World} {v : Value} {l : List K.α} {T : TypeId} {B : Nat} {ds es : List Value}
theorem ShCV_at {k : Nat} {a : K.α} {d : Value} (h1 : l[k]? = some a) (h2 : ds[k]? = some d) (j : Nat) (u : Value) (hu : (K.cells a d)[j]? = some u) : (ShCV K l ds)[k * K.m + j]? = some u := by
 refine flatV_at (m := K.m) (fun x hx => ?_) k _ (zipV_at h1 h2) j u hu
 obtain ⟨i, hi, e⟩ := List.getElem_of_mem hx
 rw [List.getElem_zipWith] at e
 rw [← e]
 exact K.len _ _
theorem InV.only (h : InV K F w v l) (ho : Only M w w') (hd : ∀ k, F k → ¬ M k) : InV K F w' v l := by
 obtain ⟨ds, h1, h2⟩ := h
 exact ⟨ds, h1.only ho hd, h2.only ho hd⟩
theorem InV.mono (h : InV K F w v l) (hF : ∀ k, k < w.heap.size → F k → F' k) : InV K F' w v l := by
 obtain ⟨ds, h1, h2⟩ := h
 exact ⟨ds, h1.mono hF, h2.mono hF⟩
theorem InV.below (h : InV K F w v l) (hb : Below w.heap.size w w') : InV K F w' v l := h.only (Only.of_below (M := fun _ => False) hb) (fun _ _ => id)
theorem InV.nil_ (K : ShapeV) (F : Nat → Prop) (w : World) : InV K F w (.slice none 0 0) [] := ⟨[], Rd.nil_ F w K.m, VssV.nil_⟩
theorem InV.tmp (h : InV K F w v l) : TmpV K F w v l := by
 obtain ⟨ds, h1, h2⟩ := h
 exact ⟨ds, h1.mono (fun _ _ _ => trivial), h2⟩
theorem TmpV.slice (h : TmpV K F w v l) : ∃ A c, v = .slice A l.length c ∧ l.length ≤ c ∧ c ≤ maxLen := by
 obtain ⟨ds, ⟨A, c, h1, h2, h3, _⟩, _⟩ := h
 exact ⟨A, c, h1, h2, h3⟩
theorem TmpV.below (h : TmpV K F w v l) (hb : Below w.heap.size w w') : TmpV K F w' v l := by
 obtain ⟨ds, h1, h2⟩ := h
 exact ⟨ds, h1.below hb, h2.only (Only.of_below (M := fun _ => False) hb) (fun _ _ => id)⟩
theorem TmpV.drew (h : TmpV K F w v l) : TmpV K F w.drew v l := h
theorem OwnS.drew (h : OwnS K T F w B v l) : OwnS K T F w.drew B v l := h
theorem OwnS.tmp (h : OwnS K T F w B v l) : TmpV K F w v l := by
 obtain ⟨⟨ds, h1, h2⟩, _⟩ := h
 exact ⟨ds, Rd.of_own h1 (fun _ _ => trivial), h2⟩
theorem TmpV.at_ {A : Option Addr} {n c : Nat} (h : TmpV K F w (.slice A n c) l) (k : Nat) (a : K.α) (hk : l[k]? = some a) :
  ∃ (ad : Addr) (d : Value), A = some ad ∧ VsV F w d (K.vals a) ∧ ∀ j u, (K.cells a d)[j]? = some u → w.cell? (ad.add (k * K.m + j)) = some u := by
 obtain ⟨ds, ⟨A', c', hv, _, _, _, _, h5⟩, hd⟩ := h
 injection hv with e1 e2 e3
 subst e1
 have hkl := (List.getElem?_eq_some_iff.1 hk).1
 obtain ⟨ad, hA, _, _, hc⟩ := h5 (by omega)
 obtain ⟨d, hdk, hby⟩ := hd.at_ (i := k) (bs := K.vals a) (by rw [List.getElem?_map, hk]; rfl)
 exact ⟨ad, d, hA, hby, fun j u hu => hc _ _ (ShCV_at hk hdk j u hu)⟩
theorem OwnS.nil_ (K : ShapeV) (T : TypeId) (F : Nat → Prop) (w : World) (B : Nat) : OwnS K T F w B (.slice none 0 0) [] := ⟨⟨[], World.ownsRow_nil w B _ _, VssV.nil_⟩, fun k h => by cases h⟩
theorem OwnS.base {B' : Nat} (h : OwnS K T F w B v l) (hB : B' ≤ B) : OwnS K T F w B' v l := by
 obtain ⟨⟨ds, h1, h2⟩, h3⟩ := h
 obtain ⟨g1, g2⟩ := h1
 exact ⟨⟨ds, ⟨g1, g2.imp id fun ⟨g, cap, cur, a1, a2, a3⟩ => ⟨g, cap, cur, a1, by omega, a3⟩⟩, h2⟩, h3⟩
theorem OwnS.only (h : OwnS K T F w B v l) (ho : Only M w w') (hd : ∀ k, F k → ¬ M k) (hv : ∀ k, v.ownBlock = some k → ¬ M k) : OwnS K T F w' B v l := by
 obtain ⟨⟨ds, h1, h2⟩, h3⟩ := h
 refine ⟨⟨ds, ?_, h2.only ho hd⟩, h3⟩
 refine ⟨h1.1, h1.2.imp id fun ⟨g, cap, cur, a1, a2, a3, a4⟩ => ⟨g, cap, cur, a1, a2, ?_, a4⟩⟩
 subst a1
 have hlt : g < w.heap.size := (Array.getElem?_eq_some_iff.1 a3).1
 rw [ho.block g hlt (hv g rfl)]
 exact a3
theorem OwnS.mono (h : OwnS K T F w B v l) (hF : ∀ k, k < w.heap.size → F k → F' k) (hn : ∀ k, v.ownBlock = some k → ¬ F' k) : OwnS K T F' w B v l := by
 obtain ⟨⟨ds, h1, h2⟩, _⟩ := h
 exact ⟨⟨ds, h1, h2.mono hF⟩, hn⟩
theorem OwnS.lt (h : OwnS K T F w B v l) (k : Nat) (hk : v.ownBlock = some k) : B ≤ k ∧ k < w.heap.size := by
 obtain ⟨⟨ds, h1, _⟩, _⟩ := h
 exact h1.lt k hk
theorem OwnS.alloc (h : OwnS K T F w B v l) (o : Obj) : OwnS K T F (w.alloc o) B v l := h.only ((Only.refl (fun _ => False) w).alloc o) (fun _ _ => id) (fun _ _ => id)
theorem TmpV.alloc (h : TmpV K F w v l) (o : Obj) : TmpV K F (w.alloc o) v l := h.below ((Below.refl _ _).alloc (Nat.le_refl _) o)
theorem TmpV.one {g : Nat} {a : K.α} {d : Value} {cs : Array Value} (hg : Blk w g T cs) (hcs : cs.toList = K.cells a d) (hd : VsV F w d (K.vals a)) : TmpV K F w (.slice (some ⟨g, 0, none⟩) 1 1) [a] := by
 refine ⟨[d], ⟨some ⟨g, 0, none⟩, 1, rfl, Nat.le_refl _, by unfold maxLen; omega, ?_, (fun e => by cases e), fun _ => ⟨_, rfl, trivial, hg.lt, fun j u hu => ?_⟩⟩, ?_⟩
 ·simp [ShCV, K.len]
 ·rw [Addr.add_mid, hg.cell, Nat.zero_add, ← Array.getElem?_toList, hcs, ← hu]
  simp [ShCV]
 ·refine ⟨rfl, fun i e b h1 h2 => ?_⟩
  have hi : i = 0 := by have := (List.getElem?_eq_some_iff.1 h1).1; simpa using this
  subst hi
  simp at h1 h2
  subst h1 h2
  exact hd
theorem OwnS.empty {g : Nat} (hg : Blk w g T #[]) (hB : B ≤ g) (hF : ¬ F g) : OwnS K T F w B (.slice (some ⟨g, 0, none⟩) 0 0) [] :=
 ⟨⟨[], ⟨by simp [ShCV], .inr ⟨g, 0, #[], rfl, hB, hg, Nat.le_refl _, by unfold maxLen; omega, by simp, by simp [ShCV]⟩⟩, VssV.nil_⟩, fun k hk hf => by
  have e : g = k := by simpa [Value.ownBlock] using hk
  exact hF (by rw [e]; exact hf)⟩
end
structure TypedV (P : Program) (K : ShapeV) (T S : TypeId) (z : Value) (bytes : Nat) : Prop where
 info : (P.info? T).map (fun i => (i.zero, i.size, i.bytes)) = some (some z, K.m, bytes)
 under : P.underlying S = some (.slice T)
 cells : z.cells.size = K.m
 small : bytes ≤ 256
section
variable {P : Program} {K : ShapeV} {T S : TypeId} {z : Value} {bytes : Nat} (D : TypedV P K T S z bytes)
include D
end
end Go.Proofs.YtpfjlhpahmhkhaaGreat.Tx
/- Maps of texts to numbers, of one's own. (No package's code in it.) -/
set_option linter.unusedVariables false
set_option linter.unusedSimpArgs false
namespace Go.Proofs.YtpfjlhpahmhkhaaGreat.Tx
open Go.RowKit Go.Maps Go.Proofs.YtpfjlhpahmhkhaaGreat.Sh
theorem lawS : Keyed Tryz.prog 9 := string_keyed Tryz.underlying9
theorem isK (p : List UInt8) : WideAt.IsKeyLit (.string p) := trivial
section
variable {H : Type} {P : Program} {k : TypeId} {R : Value → Option (DataW H × List MemPlace)} {w w' : World} {b n : Nat} {D : DataW H}
theorem own_exact (h : w.ownsMap P k R b n D) : w.ownsMap P k R b (Maps.size D) D := by
 obtain ⟨es, clock, hb, F, hs, hD⟩ := h
 refine ⟨es, clock, hb, F, ?_, hD⟩
 rw [hD, Maps.size_eq, length_sorted]
 simp
theorem own_only {M : Nat → Prop} (h : w.ownsMap P k R b n D) (ho : Only M w w') (hn : ¬ M b) : w'.ownsMap P k R b n D := by
 have hlt := h.lt
 obtain ⟨es, clock, hb, F, hs, hD⟩ := h
 exact ⟨es, clock, (ho.block b hlt hn).trans hb, F, hs, hD⟩
theorem own_cells {g : Nat} {T : TypeId} {cs : Array Value} (h : w.ownsMap P k R b n D) (hg : Blk w g T cs) : b ≠ g := by
 rintro rfl
 obtain ⟨es, clock, hb, _⟩ := h
 unfold Blk at hg
 rw [hb] at hg
 cases hg
end
theorem own_keys {H : Type} {R : Value → Option (DataW H × List MemPlace)} {w : World} {b n : Nat} {D : DataW H} (h : w.ownsMap Tryz.prog 9 R b n D) :
  ∃ es, D = .map es ∧ es.Pairwise (fun p q => p.1 ≠ q.1) ∧ ∀ e ∈ es, ∃ x, e.1 = .string x := by
 obtain ⟨es, rfl, hp⟩ := h.tidy lawS
 obtain ⟨es', he, hk⟩ := h.keysOf
 cases he
 refine ⟨es, rfl, hp, fun e he => ?_⟩
 obtain ⟨v, hv⟩ := hk e he
 obtain ⟨x, _, hx, _⟩ := Maps.keyOf_str Tryz.underlying9 hv
 exact ⟨x, hx⟩
theorem within_ {α : Type} [DecidableEq α] : ∀ {l ds : List α}, l.Nodup → (∀ x ∈ l, x ∈ ds) → l.length ≤ ds.length
 | [], ds, _, _ => Nat.zero_le _
 | x :: l, ds, hn, hs => by
  have hx : x ∈ ds := hs x List.mem_cons_self
  have hn' := List.nodup_cons.1 hn
  have := within_ (ds := ds.erase x) hn'.2 fun y hy => (List.mem_erase_of_ne (fun e => hn'.1 (by rw [← e]; exact hy))).2 (hs y (List.mem_cons_of_mem _ hy))
  have hl := List.length_erase_of_mem hx
  have h0 : 0 < ds.length := List.length_pos_of_mem hx
  rw [List.length_cons]
  omega
def strOf' : Lit → List UInt8
 | .string x => x
 | _ => []
theorem own_within {H : Type} {R : Value → Option (DataW H × List MemPlace)} {w : World} {b n : Nat} {D : DataW H} (h : w.ownsMap Tryz.prog 9 R b n D) {ds : List (List UInt8)} (hm : ∀ x, Maps.has D (.string x) = true → x ∈ ds) : Maps.size D ≤ ds.length := by
 obtain ⟨es, rfl, hp, hk⟩ := own_keys h
 rw [Maps.size_eq]
 have hl : (es.map fun p => strOf' p.1).length = es.length := List.length_map _
 rw [← hl]
 refine within_ (List.pairwise_map.2 (hp.imp_of_mem ?_)) (fun x hx => ?_)
 ·intro p q hp' hq' hne e
  refine hne ?_
  obtain ⟨a, ha⟩ := hk p hp'
  obtain ⟨c, hc⟩ := hk q hq'
  rw [ha, hc] at e ⊢
  exact congrArg _ e
 ·obtain ⟨p, hp', rfl⟩ := List.mem_map.1 hx
  obtain ⟨a, ha⟩ := hk p hp'
  refine hm _ (List.any_eq_true.2 ⟨p, hp', ?_⟩)
  rw [ha]
  exact beq_self_eq_true a
end Go.Proofs.YtpfjlhpahmhkhaaGreat.Tx
/- Closures, plainly: who is reached from whom, by names; a list of work. (No package's code in it.) -/
set_option linter.unusedVariables false
set_option linter.unusedSimpArgs false
namespace Go.Proofs.YtpfjlhpahmhkhaaGreat.Tx
inductive RB (nx : ByteArray → List ByteArray) (fr : List ByteArray) : ByteArray → Prop where
 | here {s : ByteArray} : s ∈ fr → RB nx fr s
 | step {s t : ByteArray} : RB nx fr s → t ∈ nx s → RB nx fr t
section
variable {nx nx' : ByteArray → List ByteArray} {fr f2 : List ByteArray} {s t : ByteArray}
theorem RB.trans (h : RB nx fr s) (hf : ∀ f ∈ fr, RB nx f2 f) : RB nx f2 s := by
 induction h with
 | here h => exact hf _ h
 | step _ h2 ih => exact ih.step h2
theorem RB.mono (h : RB nx fr s) (hf : ∀ f ∈ fr, f ∈ f2) : RB nx f2 s := h.trans fun f hx => .here (hf f hx)
theorem RB.app : RB nx (fr ++ f2) s ↔ RB nx fr s ∨ RB nx f2 s := by
 constructor
 ·intro h
  induction h with
  | here h => exact (List.mem_append.1 h).imp .here .here
  | step _ h2 ih => exact ih.imp (·.step h2) (·.step h2)
 ·rintro (h | h)
  ·exact h.mono fun f hf => List.mem_append_left _ hf
  ·exact h.mono fun f hf => List.mem_append_right _ hf
theorem RB.all {P : ByteArray → Prop} (h : RB nx fr s) (h0 : ∀ f ∈ fr, P f) (h1 : ∀ a, P a → ∀ b ∈ nx a, P b) : P s := by
 induction h with
 | here h => exact h0 _ h
 | step _ h2 ih => exact h1 _ ih _ h2
end
def add1 (acc : List ByteArray) (x : ByteArray) : List ByteArray := if hasT acc x then acc else acc ++ [x]
def addW (acc xs : List ByteArray) : List ByteArray := xs.foldl add1 acc
section
variable {acc xs : List ByteArray} {x y : ByteArray}
theorem add1_old (h : hasT acc x = true) : add1 acc x = acc := if_pos h
theorem add1_new (h : hasT acc x = false) : add1 acc x = acc ++ [x] := if_neg (by rw [h]; decide)
theorem mem_add1 : y ∈ add1 acc x ↔ y ∈ acc ∨ y = x := by
 cases h : hasT acc x with
 | true =>
  rw [add1_old h]
  exact ⟨.inl, fun h' => h'.elim id fun e => by rw [e]; exact hasT_iff.1 h⟩
 | false => rw [add1_new h, List.mem_append, List.mem_singleton]
theorem add1_nodup (h : acc.Nodup) : (add1 acc x).Nodup := by
 cases hx : hasT acc x with
 | true => rw [add1_old hx]; exact h
 | false =>
  rw [add1_new hx, List.nodup_append]
  refine ⟨h, List.pairwise_singleton _ _, fun a ha b hb e => ?_⟩
  rw [List.mem_singleton] at hb
  subst hb e
  rw [hasT_yes ha] at hx
  cases hx
theorem add1_pre : acc <+: add1 acc x := by
 unfold add1
 split
 ·exact List.prefix_refl _
 ·exact List.prefix_append _ _
theorem addW_ind {P : List ByteArray → Prop} (h0 : P acc) (h1 : ∀ l, P l → ∀ x ∈ xs, P (add1 l x)) : P (addW acc xs) := by
 induction xs generalizing acc with
 | nil => exact h0
 | cons x xs ih => exact ih (h1 _ h0 x List.mem_cons_self) (fun l hl y hy => h1 l hl y (List.mem_cons_of_mem _ hy))
theorem mem_addW (y : ByteArray) : y ∈ addW acc xs ↔ y ∈ acc ∨ y ∈ xs := by
 induction xs generalizing acc with
 | nil => simp [addW]
 | cons x xs ih =>
  show y ∈ addW (add1 acc x) xs ↔ _
  rw [ih, mem_add1, List.mem_cons]
  exact ⟨fun h => h.elim (fun h => h.elim .inl fun e => .inr (.inl e)) fun h => .inr (.inr h), fun h => h.elim (fun h => .inl (.inl h)) fun h => h.elim (fun e => .inl (.inr e)) .inr⟩
theorem addW_nodup (h : acc.Nodup) : (addW acc xs).Nodup := addW_ind (P := List.Nodup) h fun l hl x _ => add1_nodup hl
theorem addW_pre : acc <+: addW acc xs := addW_ind (P := fun l => acc <+: l) (List.prefix_refl _) fun l hl x _ => hl.trans add1_pre
end
structure WK (nx : ByteArray → List ByteArray) (fr xs : List ByteArray) (k : Nat) : Prop where
 nodup : xs.Nodup
 frm : ∀ f ∈ fr, f ∈ xs
 rb : ∀ s ∈ xs, RB nx fr s
 le : k ≤ xs.length
 cl : ∀ j s, j < k → xs[j]? = some s → ∀ t ∈ nx s, t ∈ xs
section
variable {nx : ByteArray → List ByteArray} {fr xs : List ByteArray} {k : Nat} {s : ByteArray}
theorem WK.start : WK nx fr (addW [] fr) 0 := ⟨addW_nodup List.Pairwise.nil, fun f hf => (mem_addW f).2 (.inr hf), fun s hs => ((mem_addW s).1 hs).elim (fun h => by cases h) .here, Nat.zero_le _, fun j s hj => absurd hj (Nat.not_lt_zero _)⟩
theorem WK.next (h : WK nx fr xs k) (hk : xs[k]? = some s) : WK nx fr (addW xs (nx s)) (k + 1) := by
 have hl := (List.getElem?_eq_some_iff.1 hk).1
 have hp : xs <+: addW xs (nx s) := addW_pre
 refine ⟨addW_nodup h.nodup, fun f hf => (mem_addW f).2 (.inl (h.frm f hf)), fun t ht => ?_, Nat.le_trans hl hp.length_le, fun j t hj ht u hu => ?_⟩
 ·rcases (mem_addW t).1 ht with h1 | h1
  ·exact h.rb t h1
  ·exact (h.rb s (List.mem_of_getElem? hk)).step h1
 ·have ht' : xs[j]? = some t := by
   obtain ⟨r, hr⟩ := hp
   rw [← hr, List.getElem?_append_left (by omega)] at ht
   exact ht
  rcases Nat.lt_or_ge j k with hjk | hjk
  ·exact (mem_addW u).2 (.inl (h.cl j t hjk ht' u hu))
  ·have : j = k := by omega
   subst this
   rw [hk] at ht'
   injection ht' with ht'
   subst ht'
   exact (mem_addW u).2 (.inr hu)
theorem WK.done (h : WK nx fr xs xs.length) : s ∈ xs ↔ RB nx fr s := by
 refine ⟨h.rb s, fun hs => ?_⟩
 refine hs.all h.frm fun a ha b hb => ?_
 obtain ⟨j, hj, rfl⟩ := List.getElem_of_mem ha
 exact h.cl j _ hj (List.getElem?_eq_getElem hj) b hb
end
end Go.Proofs.YtpfjlhpahmhkhaaGreat.Tx
/- Package reach: the list of work: add. -/
set_option linter.unusedVariables false
set_option linter.unusedSimpArgs false
namespace Go.Proofs.YtpfjlhpahmhkhaaGreat.Tx
open Go.RowKit Go.Maps Go.Proofs.YtpfjlhpahmhkhaaGreat.Sh
def MetOK (xs : List ByteArray) (D : DataW Unit) : Prop := ∀ s : ByteArray, Maps.has D (.string s.toList) = hasT xs s
theorem MetOK.nil_ : MetOK [] (.map []) := fun s => rfl
theorem hasT_snoc (xs : List ByteArray) (x s : ByteArray) : hasT (xs ++ [x]) s = (hasT xs s || (x.toList == s.toList)) := by
 unfold hasT
 rw [List.any_append]
 simp
theorem MetOK.put {xs : List ByteArray} {D : DataW Unit} (h : MetOK xs D) (hm : Maps.IsMap D) (x : ByteArray) (d : DataW Unit) : MetOK (xs ++ [x]) (D.put (.string x.toList) d) := fun s => by
 rw [hasT_snoc]
 by_cases e : s.toList = x.toList
 ·rw [e, Maps.has_put_same hm (isK _), beq_self_eq_true, Bool.or_true]
 ·rw [Maps.has_put_other (fun h => e (by injection h)), h s, show (x.toList == s.toList) = false from beq_eq_false_iff_ne.2 (fun h => e h.symm), Bool.or_false]
theorem MetOK.small {xs : List ByteArray} {w : World} {b n : Nat} {D : DataW Unit} (h : MetOK xs D) (hown : w.ownsMap Tryz.prog 9 unitElem b n D) : Maps.size D ≤ xs.length := by
 have := own_within hown (ds := xs.map ByteArray.toList) fun x hx => by
  have h1 := h (str x)
  rw [str_toList, hx] at h1
  have h2 := hasT_iff.1 h1.symm
  exact List.mem_map.2 ⟨_, h2, str_toList x⟩
 rwa [List.length_map] at this
structure WX (g bm B : Nat) (w : World) (v : Value) (xs : List ByteArray) : Prop where
 blk : Blk w g 284 #[v, .map (some bm)]
 own : OwnV 9 w B v (xs.map sv)
 map : ∃ D, w.ownsMap Tryz.prog 9 unitElem bm (Maps.size D) D ∧ MetOK xs D
 gB : B ≤ g
 bB : B ≤ bm
def WS (g bm : Nat) (v : Value) : Nat → Prop := fun k => k = g ∨ k = bm ∨ v.ownBlock = some k
section
variable {g bm B : Nat} {w w' : World} {v : Value} {xs : List ByteArray} {M : Nat → Prop}
theorem WX.only (h : WX g bm B w v xs) (ho : Only M w w') (hM : ∀ k, WS g bm v k → ¬ M k) : WX g bm B w' v xs := by
 obtain ⟨D, h1, h2⟩ := h.map
 exact ⟨ho.blk h.blk (hM g (.inl rfl)), ho.own h.own (fun k hk => hM k (.inr (.inr hk))), ⟨D, own_only h1 ho (hM bm (.inr (.inl rfl))), h2⟩, h.gB, h.bB⟩
theorem WX.below (h : WX g bm B w v xs) (hb : Below w.heap.size w w') : WX g bm B w' v xs := h.only (Only.of_below (M := fun _ => False) hb) (fun _ _ => id)
theorem WX.lt (h : WX g bm B w v xs) (k : Nat) (hk : WS g bm v k) : B ≤ k ∧ k < w.heap.size := by
 obtain ⟨D, h1, _⟩ := h.map
 rcases hk with rfl | rfl | hk
 ·exact ⟨h.gB, h.blk.lt⟩
 ·exact ⟨h.bB, h1.lt⟩
 ·exact h.own.lt k hk
theorem WX.g_bm (h : WX g bm B w v xs) : bm ≠ g := by
 obtain ⟨D, h1, _⟩ := h.map
 exact own_cells h1 h.blk
theorem WX.v_g (h : WX g bm B w v xs) : v.ownBlock ≠ some g := own_blk_ne h.own h.blk (by decide)
theorem WX.v_bm (h : WX g bm B w v xs) : v.ownBlock ≠ some bm := by
 obtain ⟨D, h1, _⟩ := h.map
 rcases h.own.blk with ⟨rfl, _⟩ | ⟨k, c, cur, rfl, _, _, hg, _⟩
 ·simp [Value.ownBlock]
 ·intro e
  have e' : k = bm := by simpa [Value.ownBlock] using e
  subst e'
  exact own_cells h1 hg rfl
theorem WX.c0 (h : WX g bm B w v xs) : w.cell? ⟨g, 0, none⟩ = some v := h.blk.cell 0
theorem WX.c1 (h : WX g bm B w v xs) : w.cell? ⟨g, 1, none⟩ = some (.map (some bm)) := h.blk.cell 1
theorem WX.push {w1 w2 : World} {v' : Value} {x : ByteArray} {D' : DataW Unit} {n : Nat} (h : WX g bm B w v xs)
  (hm : w1.ownsMap Tryz.prog 9 unitElem bm n D') (hD : MetOK (xs ++ [x]) D') (h1 : w.grownBy w1 (some bm))
  (ho : OwnV 9 w2 B v' ((xs ++ [x]).map sv)) (h2 : (w1.alloc (.cells #[.string x] 9)).grownBy w2 v.ownBlock) :
  WX g bm B (w2.setCell ⟨g, 0, none⟩ v') v' (xs ++ [x]) ∧ Only (WS g bm v) w (w2.setCell ⟨g, 0, none⟩ v') := by
 have o1 : Only (WS g bm v) w w1 := (Only.refl _ w).grown h1 (fun k hk => .inl (.inr (.inl (by injection hk with hk; exact hk.symm))))
 have o2 : Only (WS g bm v) w w2 := (o1.alloc _).grown h2 (fun k hk => .inl (.inr (.inr hk)))
 have b1 : Blk w1 g 284 #[v, .map (some bm)] := Blk.grown h.blk h1 (fun e => h.g_bm (by injection e with e; exact e.symm))
 have b2 : Blk w2 g 284 #[v, .map (some bm)] := Blk.grown (b1.alloc _) h2 (fun e => h.v_g e.symm)
 have hne : v'.ownBlock ≠ some g := own_blk_ne ho b2 (by decide)
 refine ⟨⟨?_, ho.apart hne _, ⟨D', ?_, hD⟩, h.gB, h.bB⟩, o2.set_ (.inl (.inl rfl)) _⟩
 ·exact b2.set_ 0 v'
 ·have hl : bm < w1.heap.size := hm.lt
  have m2 : w2.ownsMap Tryz.prog 9 unitElem bm n D' := own_only hm (M := fun k => v.ownBlock = some k) (((Only.refl _ w1).alloc _).grown h2 (fun k hk => .inl hk)) (fun e => h.v_bm e)
  exact own_exact (m2.setCell (a := ⟨g, 0, none⟩) h.g_bm v')
end
def AddP (g bm B : Nat) (w : World) (v : Value) (xs us : List ByteArray) (e : Ending) (w' : World) : Prop :=
 e = .returned (.tuple #[]) ∧ ∃ v', WX g bm B w' v' (addW xs us) ∧ Only (WS g bm v) w w' ∧ ∀ k, WS g bm v' k → WS g bm v k ∨ w.heap.size ≤ k
end Go.Proofs.YtpfjlhpahmhkhaaGreat.Tx
/- marlaw10's Source: objects by their hashes, or by the next one's. -/
set_option linter.unusedVariables false
set_option linter.unusedSimpArgs false
namespace Go.Proofs.YtpfjlhpahmhkhaaGreat.Ob
open Go.RowKit Go.Proofs.YtpfjlhpahmhkhaaGreat.Sh
open Go.Proofs.YtpfjlhpahmhkhaaGreat.Tx (OwnV SlV sv Only Rd reads_at)
def hashL (b : List UInt8) : List UInt8 := hexL (sumOf b)
def kAt (lie : Bool) (n i : Nat) : Nat := if lie then (i + 1) % n else i
def tIds (l : List (List UInt8)) (lie : Bool) : List (List UInt8) := (List.range l.length).map fun i => hashL (l.getD (kAt lie l.length i) [])
def srcK : List (List UInt8) → List (List UInt8) → List UInt8 → Option (List UInt8)
 | i :: is, x :: xs, id => if i = id then some x else srcK is xs id
 | _, _, _ => none
def srcP (l : List (List UInt8)) (lie : Bool) (id : List UInt8) : Option (List UInt8) := srcK (tIds l lie) l id
theorem srcK_none {is xs : List (List UInt8)} {id : List UInt8} (h : ∀ (j : Nat) (i : List UInt8), j < xs.length → is[j]? = some i → i ≠ id) : srcK is xs id = none := by
 induction is generalizing xs with
 | nil => cases xs <;> rfl
 | cons i is ih =>
  cases xs with
  | nil => rfl
  | cons x xs =>
   rw [srcK, if_neg (h 0 i (by simp) rfl)]
   exact ih fun j u hj hu => h (j + 1) u (by simp; omega) (by simpa using hu)
theorem srcK_at {is xs : List (List UInt8)} {id x : List UInt8} (m : Nat) (h : ∀ (j : Nat) (i : List UInt8), j < m → is[j]? = some i → i ≠ id) (hm : is[m]? = some id) (hx : xs[m]? = some x) : srcK is xs id = some x := by
 induction m generalizing is xs with
 | zero =>
  cases is with
  | nil => cases hm
  | cons i is =>
   cases xs with
   | nil => cases hx
   | cons y xs =>
    simp at hm hx
    rw [srcK, if_pos hm, hx]
 | succ m ih =>
  cases is with
  | nil => cases hm
  | cons i is =>
   cases xs with
   | nil => cases hx
   | cons y xs =>
    rw [srcK, if_neg (h 0 i (by omega) rfl)]
    exact ih (fun j u hj hu => h (j + 1) u (by omega) (by simpa using hu)) (by simpa using hm) (by simpa using hx)
theorem srcK_mem {is xs : List (List UInt8)} {id x : List UInt8} (h : srcK is xs id = some x) : x ∈ xs := by
 induction is generalizing xs with
 | nil => cases xs <;> cases h
 | cons i is ih =>
  cases xs with
  | nil => cases h
  | cons y xs =>
   rw [srcK] at h
   split at h
   ·injection h with h
    rw [h]; exact List.mem_cons_self
   ·exact List.mem_cons_of_mem _ (ih h)
theorem srcP_mem {l : List (List UInt8)} {lie : Bool} {id x : List UInt8} (h : srcP l lie id = some x) : x ∈ l := srcK_mem h
theorem kAt_lt {lie : Bool} {n i : Nat} (h : i < n) : kAt lie n i < n := by
 unfold kAt
 split
 ·exact Nat.mod_lt _ (by omega)
 ·exact h
theorem tIds_at {l : List (List UInt8)} {lie : Bool} {i : Nat} (h : i < l.length) : (tIds l lie)[i]? = some (hashL (l.getD (kAt lie l.length i) [])) := by
 unfold tIds
 rw [List.getElem?_map, List.getElem?_range h]
 rfl
def AskR (base : List UInt8 → Option (List UInt8)) (id : ByteArray) (W : World) (e : Ending) (w' : World) : Prop :=
 ∃ (A : Option Addr) (n c : Nat) (t : Bool), e = .returned (.tuple #[.slice A n c, .bool t]) ∧ Below W.heap.size W w' ∧
  ((base id.toList = none ∧ t = false ∧ A = none ∧ n = 0 ∧ c = 0) ∨ ∃ x, base id.toList = some x ∧ t = true ∧ x.length = n ∧ Own w' W.heap.size (.slice A n c) x)
structure SrcX (w : World) (p1 p2 p3 : Nat) (l : List (List UInt8)) (lie : Bool) : Prop where
 c1 : ∃ v, w.cell? ⟨p1, 0, none⟩ = some v ∧ LsV w v l
 c2 : w.cell? ⟨p2, 0, none⟩ = some (.bool lie)
 c3 : ∃ v, w.cell? ⟨p3, 0, none⟩ = some v ∧ Tx.SlV w v (((l.map hashL).map str).map Tx.sv)
theorem SrcX.below {w w' : World} {p1 p2 p3 : Nat} {l : List (List UInt8)} {lie : Bool} (h : SrcX w p1 p2 p3 l lie) (hb : Below w.heap.size w w') : SrcX w' p1 p2 p3 l lie := by
 obtain ⟨v1, h1, g1⟩ := h.c1
 obtain ⟨v3, h3, g3⟩ := h.c3
 exact ⟨⟨v1, (hb.cell (World.block_lt_of_cell? w _ h1)).trans h1, g1.below hb⟩, (hb.cell (World.block_lt_of_cell? w _ h.c2)).trans h.c2, ⟨v3, (hb.cell (World.block_lt_of_cell? w _ h3)).trans h3, g3.below hb⟩⟩
set_option maxRecDepth 100000 in
set_option maxHeartbeats 1600000 in
theorem src1_any {p1 p2 p3 : Nat} {l : List (List UInt8)} {lie : Bool} {w : World} (id : ByteArray) (h : SrcX w p1 p2 p3 l lie) (hl : l.length ≤ 1000000) (hs : ∀ x ∈ l, x.length ≤ 1000000) :
  Calls Tryz.prog 115 #[.string id, .pointer (some ⟨p1, 0, none⟩), .pointer (some ⟨p2, 0, none⟩), .pointer (some ⟨p3, 0, none⟩)] w (AskR (srcP l lie) id w) := by
 obtain ⟨v1, q1, g1⟩ := h.c1
 have q2 := h.c2
 obtain ⟨v3, q3, g3⟩ := h.c3
 obtain ⟨A, c, rfl, hlc, hcm⟩ := g1.slice
 obtain ⟨A3, c3, hv3, hlc3, hcm3, _⟩ := g3
 rw [List.length_map, List.length_map, List.length_map] at hv3 hlc3
 subst hv3
 unfold maxLen at hcm hcm3
 have H := Lib.hid h
 have H1 := Lib.hid g1
 have HSL := Lib.hid hs
 obtain ⟨n, hn⟩ : ∃ n, l.length = n := ⟨_, rfl⟩
 rw [hn] at q1 q3 H1 hlc hlc3 hl
 have HN := Lib.hid hn
 clear h g1 hs hn
 go_enter Tryz.func115, Tryz.ntmps115
 go_wp2_with fail
 go_loopw [7] (fun x wr => ∃ i : Nat, i ≤ n ∧ x = .int .i64 (i : Int) ∧ wr = w ∧ ∀ (j : Nat) (u : List UInt8), j < i → (tIds l lie)[j]? = some u → u ≠ id.toList) (fun x _ => n - (intOf x).toNat)
 case atStart => exact ⟨0, Nat.zero_le _, rfl, rfl, fun j u hj => absurd hj (Nat.not_lt_zero _)⟩
 case round =>
  obtain ⟨i, hi, rfl, rfl, hno⟩ := hrel
  have HNO := Lib.hid hno
  clear hno
  have z0 : (0 : Int) ≤ (i : Int) := by omega
  by_cases hlt : i < n
  ·have z1 : (i : Int) < (n : Int) := by omega
   have hil : i < l.length := by have := HN.out; omega
   obtain ⟨k, hk⟩ : ∃ k, kAt lie n i = k := ⟨_, rfl⟩
   have hkn : k < n := by rw [← hk]; exact kAt_lt hlt
   have hTI : (tIds l lie)[i]? = some (hashL (l.getD k [])) := by rw [tIds_at hil, HN.out, hk]
   have HTI := Lib.hid hTI
   obtain ⟨b, hb⟩ : ∃ b, l[k]? = some b := ⟨_, List.getElem?_eq_getElem (by have := HN.out; omega)⟩
   have hgd : l.getD k [] = b := by rw [List.getD_eq_getElem?_getD, hb]; rfl
   rw [hgd] at HTI
   obtain ⟨x, hx⟩ : ∃ x, l[i]? = some x := ⟨_, List.getElem?_eq_getElem hil⟩
   have HX := Lib.hid hx
   have HXL : Hid (x.length ≤ 1000000) := HSL.out x (List.mem_of_getElem? hx)
   obtain ⟨ad1, A4, c4, e1, x1, _, _, hsx⟩ := H1.out.at_ i x hx
   have HSX := Lib.hid hsx
   obtain ⟨ad3, e3, x3⟩ : ∃ ad, A3 = some ad ∧ wr.cell? (ad.add k) = some (.string (str (hashL b))) := by
    obtain ⟨v3, y3, g3⟩ := H.out.c3
    rw [q3] at y3
    injection y3 with y3
    obtain ⟨A', c', e', _, _, hrd, _⟩ := g3
    rw [← y3] at e'
    injection e' with e' _ _
    subst e'
    exact Tx.reads_at hrd k (Tx.sv (str (hashL b))) (by rw [List.getElem?_map, List.getElem?_map, List.getElem?_map, hb]; rfl)
   subst e1 e3
   have HK : Hid ((lie = true → ((i : Int) + 1) % (n : Int) = (k : Int)) ∧ (lie = false → i = k)) := by
    refine ⟨fun e => ?_, fun e => ?_⟩
    ·rw [← hk]; unfold kAt; rw [if_pos e]; exact (Int.natCast_emod (i + 1) n).symm
    ·rw [← hk]; unfold kAt; rw [if_neg (by rw [e]; decide)]
   have z2 : (0 : Int) ≤ (k : Int) := by omega
   have z3 : (k : Int) < (n : Int) := by omega
   have st := str_toList (hashL b)
   obtain ⟨xl, hxl⟩ : ∃ y, x.length = y := ⟨_, rfl⟩
   rw [hxl] at x1 HSX
   have HXN := Lib.hid hxl
   clear hil hk hTI hb hgd hx hsx hxl
   cases lie with
   | true =>
    have e1 := HK.out.1 rfl
    by_cases he : hashL b = id.toList
    ·have t1 : (hashL b == id.toList) = true := beq_iff_eq.2 he
     have HE := Lib.hid he
     clear he
     go_wp2_with fail
     refine (copyb_any _ x wr HSX.out (by rw [HXN.out]; have := HXL.out; rw [HXN.out] at this; omega)).mono ?_
     rintro e w2 ⟨v2, rfl, ho2, hb2⟩
     obtain ⟨A5, c5, rfl, _, _⟩ := ho2.length
     have HO2 := Lib.hid ho2
     have HB2 := Lib.hid hb2
     clear ho2 hb2
     rw [HXN.out] at HO2 ⊢
     go_wp2_with fail
     go_ret2
     exact ⟨A5, xl, c5, true, rfl, HB2.out, .inr ⟨x, srcK_at i HNO.out (by rw [HTI.out, HE.out]) HX.out, rfl, HXN.out, HO2.out⟩⟩
    ·have t1 : (hashL b == id.toList) = false := beq_eq_false_iff_ne.2 he
     have HE := Lib.hid he
     clear he
     go_wp2_with fail
     go_roundw
     case rel => exact ⟨i + 1, by omega, by go_num, trivial, fun j u hj hu => by
      rcases Nat.lt_or_ge j i with h1 | h1
      ·exact HNO.out j u h1 hu
      ·have : j = i := by omega
       subst this
       rw [HTI.out] at hu
       injection hu with hu
       rw [← hu]
       exact HE.out⟩
     case measure => simp [intOf]; omega
   | false =>
    obtain rfl := HK.out.2 rfl
    by_cases he : hashL b = id.toList
    ·have t1 : (hashL b == id.toList) = true := beq_iff_eq.2 he
     have HE := Lib.hid he
     clear he
     go_wp2_with fail
     refine (copyb_any _ x wr HSX.out (by rw [HXN.out]; have := HXL.out; rw [HXN.out] at this; omega)).mono ?_
     rintro e w2 ⟨v2, rfl, ho2, hb2⟩
     obtain ⟨A5, c5, rfl, _, _⟩ := ho2.length
     have HO2 := Lib.hid ho2
     have HB2 := Lib.hid hb2
     clear ho2 hb2
     rw [HXN.out] at HO2 ⊢
     go_wp2_with fail
     go_ret2
     exact ⟨A5, xl, c5, true, rfl, HB2.out, .inr ⟨x, srcK_at i HNO.out (by rw [HTI.out, HE.out]) HX.out, rfl, HXN.out, HO2.out⟩⟩
    ·have t1 : (hashL b == id.toList) = false := beq_eq_false_iff_ne.2 he
     have HE := Lib.hid he
     clear he
     go_wp2_with fail
     go_roundw
     case rel => exact ⟨i + 1, by omega, by go_num, trivial, fun j u hj hu => by
      rcases Nat.lt_or_ge j i with h1 | h1
      ·exact HNO.out j u h1 hu
      ·have : j = i := by omega
       subst this
       rw [HTI.out] at hu
       injection hu with hu
       rw [← hu]
       exact HE.out⟩
     case measure => simp [intOf]; omega
  ·obtain rfl : i = n := by omega
   go_wp2_with fail
   go_ret2
   refine ⟨none, 0, 0, false, rfl, Below.refl _ _, .inl ⟨?_, rfl, rfl, rfl, rfl⟩⟩
   exact srcK_none fun j u hj hu => HNO.out j u (by have := HN.out; omega) hu
end Go.Proofs.YtpfjlhpahmhkhaaGreat.Ob
