/- Texts put together: Mp0, Ts2. -/
import Derived.Test.YtecpedecgcaeoaaQg16
import Derived.Test.YtecpedecgcaeoaaQg07
import Derived.Maps.OwnSet
import Derived.Maps.OwnOps
import Derived.Maps.StringElems
import Derived.Sort.KeysCollected
import Derived.Test.YtecpedecgcaeoaaQg06
import Derived.Test.YtecpedecgcaeoaaQg04
import Derived.WalkLawsBesides
import Derived.IntWalk
/- Maps of texts to numbers, of one's own. (No package's code in it.) -/
set_option linter.unusedVariables false
set_option linter.unusedSimpArgs false
namespace Go.Proofs.Ytecpedecgcaeoaa.Tx
open Go.RowKit Go.Maps Go.Proofs.Ytecpedecgcaeoaa.Sh

theorem lawS : Keyed Try.prog 9 := string_keyed Try.underlying9
theorem isK (p : List UInt8) : WideAt.IsKeyLit (.string p) := trivial
theorem key_ba (s : ByteArray) (hp : s.size ≤ 1000000) : keyOf Try.prog 9 (.string s) = some (.string s.toList) := by
  have := Go.WideMaps.keyOf_string_mk (P := Try.prog) (s := s) Try.underlying9 (by unfold maxLen; omega)
  rw [this, ByteArray.toList_eq]
section
variable {H : Type} {P : Program} {k : TypeId} {R : Value → Option (DataW H × List MemPlace)} {w w' : World} {b n : Nat} {D : DataW H}
theorem own_exact (h : w.ownsMap P k R b n D) : w.ownsMap P k R b (Maps.size D) D := by
  obtain ⟨es, clock, hb, F, hs, hD⟩ := h
  refine ⟨es, clock, hb, F, ?_, hD⟩
  rw [hD, Maps.size_eq, length_sorted]
  simp
theorem own_only {M : Nat → Prop} (h : w.ownsMap P k R b n D) (ho : Only M w w') (hn : ¬ M b) : w'.ownsMap P k R b n D := by
  have hlt := h.lt
  obtain ⟨es, clock, hb, F, hs, hD⟩ := h
  exact ⟨es, clock, (ho.block b hlt hn).trans hb, F, hs, hD⟩
/-- A block of cells is no map. -/
theorem own_cells {g : Nat} {T : TypeId} {cs : Array Value} (h : w.ownsMap P k R b n D) (hg : Blk w g T cs) : b ≠ g := by
  rintro rfl
  obtain ⟨es, clock, hb, _⟩ := h
  unfold Blk at hg
  rw [hb] at hg
  cases hg
end
theorem own_keys {H : Type} {R : Value → Option (DataW H × List MemPlace)} {w : World} {b n : Nat} {D : DataW H} (h : w.ownsMap Try.prog 9 R b n D) :
    ∃ es, D = .map es ∧ es.Pairwise (fun p q => p.1 ≠ q.1) ∧ ∀ e ∈ es, ∃ x, e.1 = .string x := by
  obtain ⟨es, rfl, hp⟩ := h.tidy lawS
  obtain ⟨es', he, hk⟩ := h.keysOf
  cases he
  refine ⟨es, rfl, hp, fun e he => ?_⟩
  obtain ⟨v, hv⟩ := hk e he
  obtain ⟨x, _, hx, _⟩ := Maps.keyOf_str Try.underlying9 hv
  exact ⟨x, hx⟩
theorem own_isMap {H : Type} {R : Value → Option (DataW H × List MemPlace)} {w : World} {b n : Nat} {D : DataW H} (h : w.ownsMap Try.prog 9 R b n D) : Maps.IsMap D := by
  obtain ⟨es, rfl, _, _⟩ := own_keys h
  exact ⟨es, rfl⟩
theorem within_ {α : Type} [DecidableEq α] : ∀ {l ds : List α}, l.Nodup → (∀ x ∈ l, x ∈ ds) → l.length ≤ ds.length
  | [], ds, _, _ => Nat.zero_le _
  | x :: l, ds, hn, hs => by
    have hx : x ∈ ds := hs x List.mem_cons_self
    have hn' := List.nodup_cons.1 hn
    have := within_ (ds := ds.erase x) hn'.2 fun y hy => (List.mem_erase_of_ne (fun e => hn'.1 (by rw [← e]; exact hy))).2 (hs y (List.mem_cons_of_mem _ hy))
    have hl := List.length_erase_of_mem hx
    have h0 : 0 < ds.length := List.length_pos_of_mem hx
    rw [List.length_cons]
    omega
def strOf' : Lit → List UInt8
  | .string x => x
  | _ => []
theorem own_within {H : Type} {R : Value → Option (DataW H × List MemPlace)} {w : World} {b n : Nat} {D : DataW H} (h : w.ownsMap Try.prog 9 R b n D) {ds : List (List UInt8)} (hm : ∀ x, Maps.has D (.string x) = true → x ∈ ds) : Maps.size D ≤ ds.length := by
  obtain ⟨es, rfl, hp, hk⟩ := own_keys h
  rw [Maps.size_eq]
  have hl : (es.map fun p => strOf' p.1).length = es.length := List.length_map _
  rw [← hl]
  refine within_ (List.pairwise_map.2 (hp.imp_of_mem ?_)) (fun x hx => ?_)
  · intro p q hp' hq' hne e
    refine hne ?_
    obtain ⟨a, ha⟩ := hk p hp'
    obtain ⟨c, hc⟩ := hk q hq'
    rw [ha, hc] at e ⊢
    exact congrArg _ e
  · obtain ⟨p, hp', rfl⟩ := List.mem_map.1 hx
    obtain ⟨a, ha⟩ := hk p hp'
    refine hm _ (List.any_eq_true.2 ⟨p, hp', ?_⟩)
    rw [ha]
    exact beq_self_eq_true a
theorem zeroI (w : World) : (zeroValue 3).run Try.prog w = .ok (.int .i64 0) w := by kernel_rfl
end Go.Proofs.Ytecpedecgcaeoaa.Tx
/- mergeRuns: what it is told of memory. -/
namespace Go.Proofs.Ytecpedecgcaeoaa.Tx
open Go.RowKit Go.Proofs.Ytecpedecgcaeoaa.Sh

/-- Block g holds just these texts. -/
def BlkL (w : World) (g : Nat) (L : List Value) : Prop := Blk w g 9 L.toArray
section
variable {w w' : World} {g : Nat} {L : List Value}
theorem BlkL.cell (h : BlkL w g L) (i : Nat) (u : Value) (hu : L[i]? = some u) : w.cell? ⟨g, i, none⟩ = some u := by
  have := Blk.cell h i
  rw [this, List.getElem?_toArray, hu]
theorem BlkL.frozen (h : BlkL w g L) (i : Nat) : w.frozen? ⟨g, i, none⟩ = false := Blk.frozen h i
theorem BlkL.set (h : BlkL w g L) (i : Nat) (u : Value) : BlkL (w.setCell ⟨g, i, none⟩ u) g (L.set i u) := by
  have := Blk.set_ h i u
  unfold BlkL
  rw [← List.setIfInBounds_toArray]
  exact this
theorem BlkL.far (h : BlkL w g L) {p : Addr} (hp : g ≠ p.block) (u : Value) : BlkL (w.setCell p u) g L := Blk.far h hp u
theorem BlkL.drew (h : BlkL w g L) : BlkL w.drew g L := h
theorem BlkL.drewN (h : BlkL w g L) (n : Nat) : BlkL (w.drewN n) g L := h
theorem BlkL.lt (h : BlkL w g L) : g < w.heap.size := Blk.lt h
theorem BlkL.only {g' : Nat} (h : BlkL w g L) (hg : w.grownBy w' (some g')) (hne : g ≠ g') : BlkL w' g L := Blk.grown h hg (fun e => by injection e with e; exact hne e)
end
/-- In F the texts xs stand at place o. -/
def At (F : List Value) (o : Nat) (xs : List ByteArray) : Prop := ∀ j s, xs[j]? = some s → F[o + j]? = some (sv s)
theorem At.head {F : List Value} {o : Nat} {x : ByteArray} {xs : List ByteArray} (h : At F o (x :: xs)) : F[o]? = some (sv x) := h 0 x rfl
theorem At.tail {F : List Value} {o : Nat} {x : ByteArray} {xs : List ByteArray} (h : At F o (x :: xs)) : At F (o + 1) xs := fun j s hs => by
  have := h (j + 1) s hs
  rwa [show o + (j + 1) = o + 1 + j by omega] at this
theorem set_mid (P S : List Value) (done : List ByteArray) (old : List Value) (k : Nat) (x : ByteArray) (hd : done.length = k) (hk : k < old.length) :
    (P ++ (done.map sv ++ old.drop k) ++ S).set (P.length + k) (sv x) = P ++ ((done ++ [x]).map sv ++ old.drop (k + 1)) ++ S := by
  rw [List.append_assoc, List.set_append_right _ _ (by omega), Nat.add_sub_cancel_left, List.append_assoc, List.set_append_right _ _ (by rw [List.length_map]; omega), List.length_map, hd, Nat.sub_self, List.drop_eq_getElem_cons hk, List.cons_append, List.set_cons_zero, List.map_append]
  simp
theorem get_mid (P S : List Value) (done : List ByteArray) (old : List Value) (k : Nat) (hd : done.length = k) (hk : k < old.length) : (P ++ (done.map sv ++ old.drop k) ++ S)[P.length + k]? = some old[k] := by
  rw [List.append_assoc, List.getElem?_append_right (by omega), Nat.add_sub_cancel_left, List.append_assoc, List.getElem?_append_right (by rw [List.length_map]; omega), List.length_map, hd, Nat.sub_self, List.drop_eq_getElem_cons hk]
  rfl
/-- What mergeRuns' round is told: k texts are laid, xa and xb are left. -/
def MR (w : World) (gt gf n : Nat) (P old S F : List Value) (m0 : List ByteArray) (va vb i : Value) (wr : World) : Prop :=
  ∃ (k : Nat) (xa xb done : List ByteArray) (pa pb : Addr) (oa ob ca cb : Nat), k ≤ n ∧ i = .int .i64 k ∧ va = .slice (some pa) xa.length ca ∧ vb = .slice (some pb) xb.length cb ∧ xa.length ≤ ca ∧ ca ≤ maxLen ∧ xb.length ≤ cb ∧ cb ≤ maxLen ∧
    (0 < xa.length → pa = ⟨gf, oa, none⟩) ∧ (0 < xb.length → pb = ⟨gf, ob, none⟩) ∧ At F oa xa ∧ At F ob xb ∧ done.length = k ∧ k + xa.length + xb.length = n ∧ done ++ mergeL xa xb = m0 ∧
    BlkL wr gf F ∧ BlkL wr gt (P ++ (done.map sv ++ old.drop k) ++ S) ∧ w.grownBy wr (some gt)
theorem MR.left {w wr wr' : World} {gt gf n k oa ob ca ca' cb : Nat} {P old S F : List Value} {m0 xa xb done : List ByteArray} {x : ByteArray} {pa' pb : Addr} (hk : k < n) (h1 : xa.length + 1 ≤ ca) (hca : ca ≤ maxLen) (h2 : xb.length ≤ cb) (hcb : cb ≤ maxLen)
    (hpa : 0 < xa.length → pa' = ⟨gf, oa + 1, none⟩) (hca' : ca' = ca - 1) (hpb : 0 < xb.length → pb = ⟨gf, ob, none⟩) (hA : At F oa (x :: xa)) (hB : At F ob xb) (hd : done.length = k) (hn : k + (xa.length + 1) + xb.length = n) (hm : done ++ mergeL (x :: xa) xb = m0) (hmx : mergeL (x :: xa) xb = x :: mergeL xa xb)
    (hF : BlkL wr' gf F) (hT : BlkL wr gt (P ++ (done.map sv ++ old.drop k) ++ S)) (ho : old.length = n) (hT' : ∀ L, BlkL wr gt L → BlkL wr' gt (L.set (P.length + k) (sv x))) (hg : w.grownBy wr' (some gt)) :
    MR w gt gf n P old S F m0 (.slice (some pa') xa.length ca') (.slice (some pb) xb.length cb) (.int .i64 ((k + 1 : Nat) : Int)) wr' := by
  refine ⟨k + 1, xa, xb, done ++ [x], pa', pb, oa + 1, ob, ca', cb, by omega, rfl, rfl, rfl, by omega, by omega, h2, hcb, hpa, hpb, hA.tail, hB, by simp [hd], by omega, ?_, hF, ?_, hg⟩
  · rw [← hm, hmx, List.append_assoc]; rfl
  · rw [← set_mid P S done old k x hd (by omega)]
    exact hT' _ hT
theorem MR.right {w wr wr' : World} {gt gf n k oa ob ca cb cb' : Nat} {P old S F : List Value} {m0 xa xb done : List ByteArray} {x : ByteArray} {pa pb' : Addr} (hk : k < n) (h1 : xa.length ≤ ca) (hca : ca ≤ maxLen) (h2 : xb.length + 1 ≤ cb) (hcb : cb ≤ maxLen)
    (hpa : 0 < xa.length → pa = ⟨gf, oa, none⟩) (hcb' : cb' = cb - 1) (hpb : 0 < xb.length → pb' = ⟨gf, ob + 1, none⟩) (hA : At F oa xa) (hB : At F ob (x :: xb)) (hd : done.length = k) (hn : k + xa.length + (xb.length + 1) = n) (hm : done ++ mergeL xa (x :: xb) = m0) (hmx : mergeL xa (x :: xb) = x :: mergeL xa xb)
    (hF : BlkL wr' gf F) (hT : BlkL wr gt (P ++ (done.map sv ++ old.drop k) ++ S)) (ho : old.length = n) (hT' : ∀ L, BlkL wr gt L → BlkL wr' gt (L.set (P.length + k) (sv x))) (hg : w.grownBy wr' (some gt)) :
    MR w gt gf n P old S F m0 (.slice (some pa) xa.length ca) (.slice (some pb') xb.length cb') (.int .i64 ((k + 1 : Nat) : Int)) wr' := by
  refine ⟨k + 1, xa, xb, done ++ [x], pa, pb', oa, ob + 1, ca, cb', by omega, rfl, rfl, rfl, h1, hca, by omega, by omega, hpa, hpb, hA, hB.tail, by simp [hd], by omega, ?_, hF, ?_, hg⟩
  · rw [← hm, hmx, List.append_assoc]; rfl
  · rw [← set_mid P S done old k x hd (by omega)]
    exact hT' _ hT
end Go.Proofs.Ytecpedecgcaeoaa.Tx
