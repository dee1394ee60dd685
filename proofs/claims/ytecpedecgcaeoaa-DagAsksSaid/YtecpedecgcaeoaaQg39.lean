/- Texts put together: Gr5. -/
import Derived.Test.YtecpedecgcaeoaaQg38
/- The document's Graph as one's own: read, made, grown. -/
set_option linter.unusedVariables false
set_option linter.unusedSimpArgs false
namespace Go.Proofs.Ytecpedecgcaeoaa.Tx
open Go.RowKit Go.Proofs.Ytecpedecgcaeoaa.Sh

section
variable {Z M : Nat → Prop} {w0 w w' : World} {g : Nat} {G : GR}
theorem rows_get {R : List (Value × List ByteArray)} {n : Nat} {f : Nat → List ByteArray} (h : R.map (·.2) = (List.range n).map f) : R.length = n ∧ ∀ k, k < n → ∃ v, R[k]? = some (v, f k) := by
  have hl : R.length = n := by have := congrArg List.length h; simpa using this
  refine ⟨hl, fun k hk => ?_⟩
  have h1 : (R.map (·.2))[k]? = some (f k) := by rw [h, List.getElem?_map, List.getElem?_range hk]; rfl
  rw [List.getElem?_map] at h1
  rw [List.getElem?_eq_getElem (by omega)] at h1 ⊢
  injection h1 with h1
  exact ⟨R[k].1, by rw [← h1]⟩
theorem DGo.rg (h : DGo Z w g G) : RG w g G := by
  obtain ⟨x0, x1, x2, R, hm, hR⟩ := h.ex
  obtain ⟨hl, hget⟩ := rows_get hR
  obtain ⟨A, c, hx1, hc, hcm, hr⟩ := hm.o1.slv.len
  rw [List.length_map, hl] at hx1 hc hr
  refine ⟨⟨x0, by rw [hm.blk.cell]; rfl, by have := hm.o0.slv; rwa [List.map_map] at this⟩, ⟨A, c, by rw [hm.blk.cell, hx1]; rfl, fun k hk => ?_⟩, ⟨x2, by rw [hm.blk.cell]; rfl, by have := hm.o2.slv; rwa [List.map_map] at this⟩⟩
  obtain ⟨v, hv⟩ := hget k hk
  obtain ⟨ad, e, x⟩ := reads_at hr k v (by rw [List.getElem?_map, hv]; rfl)
  exact ⟨ad, v, e, x, (hm.row _ (List.mem_of_getElem? hv)).1.slv⟩
theorem DGo.only (h : DGo Z w g G) (ho : Only M w w') (hM : ∀ k, Z k → ¬ M k) : DGo Z w' g G := by
  obtain ⟨x0, x1, x2, R, hm, hR⟩ := h.ex
  have hz : ∀ {E : TypeId} {v : Value} {vs : List Value}, OwnV E w 0 v vs → (∀ k, v.ownBlock = some k → Z k ∨ w.heap.size ≤ k) → OwnV E w' 0 v vs := fun {E v vs} a b => ho.own a fun k hk => hM k ((b k hk).resolve_right (by have := (a.lt k hk).2; omega))
  have hs := ho.size
  have hz' : ∀ {E : TypeId} {v : Value} {vs : List Value}, OwnV E w 0 v vs → (∀ k, v.ownBlock = some k → Z k ∨ w.heap.size ≤ k) → (∀ k, v.ownBlock = some k → Z k ∨ w'.heap.size ≤ k) := fun {E v vs} a b k hk => .inl ((b k hk).resolve_right (by have := (a.lt k hk).2; omega))
  exact ⟨⟨x0, x1, x2, R, ⟨ho.blk hm.blk (hM g hm.gz), hm.gz, hz hm.o0 hm.z0, hz hm.o1 hm.z1, hz hm.o2 hm.z2, hz' hm.o0 hm.z0, hz' hm.o1 hm.z1, hz' hm.o2 hm.z2, fun p hp => ⟨hz (hm.row p hp).1 (hm.row p hp).2.1, hz' (hm.row p hp).1 (hm.row p hp).2.1, (hm.row p hp).2.2⟩, Only.refl _ _⟩, hR⟩, fun k hk => Nat.lt_of_lt_of_le (h.lt k hk) hs⟩
theorem DGo.below (h : DGo Z w g G) (hb : Below w.heap.size w w') : DGo Z w' g G := h.only (Only.of_below (M := fun _ => False) hb) (fun _ _ => id)
/-- A graph that was just made. -/
theorem DGo.nil_ (w : World) : DGo (fun k => k = w.heap.size) (w.alloc (.cells #[.slice none 0 0, .slice none 0 0, .slice none 0 0] 33)) w.heap.size [] := by
  refine ⟨⟨.slice none 0 0, .slice none 0 0, .slice none 0 0, [], ⟨Blk.new w _ _, rfl, OwnV.nil_ _ _, OwnV.nil_ _ _, OwnV.nil_ _ _, ?_, ?_, ?_, fun p hp => (by cases hp), Only.refl _ _⟩, rfl⟩, fun k hk => by subst hk; simp⟩ <;> intro k hk <;> simp [Value.ownBlock] at hk
/-- The graph grown, in the world where all three are laid. -/
theorem DGo.grown {x0 x1 x2 u : Value} {R : List (Value × List ByteArray)} {id : ByteArray} {ps : List ByteArray} {stamp : Int} (hw : GW G) (hz : ∀ k, Z k → k < w0.heap.size) (hE : addE G id ps stamp = 0) (hR : R.map (·.2) = (List.range G.length).map fun k => (parAt G k).map (idAt G))
    (h : Mid Z w0 w' g #[x0, x1, x2] x0 (G.map (·.id) ++ [id]) x1 (R.map (·.1) ++ [u]) x2 (G.map (·.stamp) ++ [stamp]) (R ++ [(u, uniqT ps)])) :
    ∃ Z', DGo Z' w' g (addG G id ps stamp) ∧ Only Z w0 w' ∧ (∀ k, Z k → Z' k) ∧ (∀ k, Z' k → Z k ∨ w0.heap.size ≤ k) := by
  obtain ⟨_, _, hall, _, _, _⟩ := addE_ok hE
  have hs := h.only.size
  have hZ : ∀ {E : TypeId} {v : Value} {vs : List Value}, OwnV E w' 0 v vs → (∀ k, v.ownBlock = some k → Z k ∨ w0.heap.size ≤ k) → ∀ k, v.ownBlock = some k → (Z k ∨ (w0.heap.size ≤ k ∧ k < w'.heap.size)) ∨ w'.heap.size ≤ k := fun {E v vs} a b k hk => .inl ((b k hk).imp_right fun x => ⟨x, (a.lt k hk).2⟩)
  refine ⟨fun k => Z k ∨ (w0.heap.size ≤ k ∧ k < w'.heap.size), ⟨⟨x0, x1, x2, R ++ [(u, uniqT ps)], ⟨h.blk, .inl h.gz, ?_, ?_, ?_, hZ h.o0 h.z0, hZ h.o1 h.z1, hZ h.o2 h.z2, fun p hp => ⟨(h.row p hp).1, hZ (h.row p hp).1 (h.row p hp).2.1, (h.row p hp).2.2⟩, Only.refl _ _⟩, ?_⟩, fun k hk => ?_⟩, h.only, fun k hk => .inl hk, fun k hk => hk.imp_right (·.1)⟩
  · have := h.o0
    unfold addG
    rw [List.map_append]
    exact this
  · have := h.o1
    rw [List.map_append]
    exact this
  · have := h.o2
    unfold addG
    rw [List.map_append]
    exact this
  · have hl : (addG G id ps stamp).length = G.length + 1 := by unfold addG; simp
    rw [hl, List.range_succ, List.map_append, List.map_append, hR]
    congr 1
    · refine List.map_congr_left fun k hk => ?_
      have hk' : k < G.length := List.mem_range.1 hk
      unfold addG
      rw [parAt_old _ hk']
      refine List.map_congr_left fun j hj => ?_
      exact (idAt_old _ (par_lt hw hj)).symm
    · simp only [List.map_cons, List.map_nil]
      unfold addG
      rw [parAt_of (at_new G _)]
      congr 1
      have e : (plsL G (uniqT ps)).map (idAt (G ++ [⟨id, plsL G (uniqT ps), stamp⟩])) = (plsL G (uniqT ps)).map (idAt G) := List.map_congr_left fun j hj => idAt_old _ (pls_lt hall j hj)
      exact (e.trans (pls_ids hall)).symm
  · rcases hk with hk | hk
    · have := hz k hk; omega
    · exact hk.2
end
/-- The three appends, as steps. -/
theorem sapp0 {Z : Nat → Prop} {w0 w : World} {g : Nat} {cs : Array Value} {x0 x1 x2 : Value} {l0 : List ByteArray} {rs : List Value} {l2 : List Int} {R : List (Value × List ByteArray)} {ops : Array Oper} {o : Oper} {a : Act} {K : Act → World → Prop} {Q : Exit → Act → World → Prop} {E : Prop} (d : Nat) (hd : o.dst = some d) (hgd : o.guard = none) (s x : Operand)
    (ho : o.op = .call { callee := .builtin .append, args := #[s, x], argTypes := #[23, 23] }) (h : Mid Z w0 w g cs x0 l0 x1 rs x2 l2 R) (hs : a.eval s = x0) (t : Value) (u : ByteArray) (hx : a.eval x = t) (hr : OwnV 9 w 0 t ([u].map sv)) (hsmall : l0.length + 1 ≤ 2000000)
    (hK : ∀ v' w', Mid Z w0 w' g cs v' (l0 ++ [u]) x1 rs x2 l2 R → (∀ E v vs, E ≠ 9 → OwnV E w 0 v vs → OwnV E w' 0 v vs) → K (a.put (some d) v') w') : if Region.wanted o (yielded ops a.tmps) = true then Oper.wp Try.prog o a w K Q else E := by
  obtain ⟨A, c, rfl, _, _, hR⟩ := hr.slv.len
  obtain ⟨i0, hi, hz0, hz1, hz2⟩ := info_parts info_str
  have hown' : w.ownsRow 0 9 1 x0 l0.length (l0.map sv) := by have := h.o0; unfold OwnV at this; rwa [List.length_map] at this
  refine step_append_any w hgd s x 23 ho 0 9 i0 (.string ⟨#[]⟩) 1 16 Try.underlying23 hi hz0 hz1 hz2 rfl (by decide) x0 l0.length _ hs hown' _ A 1 c _ hx hR (sv_one [u]) (by unfold maxLen; omega) (by omega) (Nat.zero_le _) ?_
  intro v' w' h1 h2 h3
  rw [hd]
  refine hK v' w' (h.app0 h2 h3 ?_) (fun E v vs hE hv => hv.kept h2 (hv.unlike h.o0 hE))
  unfold OwnV
  rw [List.length_map, List.length_append, List.map_append]
  exact h1
theorem info_txs : (Try.prog.info? 23).map (fun i => (i.zero, i.size, i.bytes)) = some (some (.slice none 0 0), 1, 24) := by kernel_rfl
theorem sapp1 {Z : Nat → Prop} {w0 w : World} {g : Nat} {cs : Array Value} {x0 x1 x2 : Value} {l0 : List ByteArray} {rs : List Value} {l2 : List Int} {R : List (Value × List ByteArray)} {ops : Array Oper} {o : Oper} {a : Act} {K : Act → World → Prop} {Q : Exit → Act → World → Prop} {E : Prop} (d : Nat) (hd : o.dst = some d) (hgd : o.guard = none) (s x : Operand)
    (ho : o.op = .call { callee := .builtin .append, args := #[s, x], argTypes := #[30, 30] }) (h : Mid Z w0 w g cs x0 l0 x1 rs x2 l2 R) (hs : a.eval s = x1) (t : Value) (u : Value) (hu : u.oneCell' = true) (hx : a.eval x = t) (hr : OwnV 23 w 0 t [u]) (hsmall : rs.length + 1 ≤ 2000000)
    (hK : ∀ v' w', Mid Z w0 w' g cs x0 l0 v' (rs ++ [u]) x2 l2 R → (∀ E v vs, E ≠ 23 → OwnV E w 0 v vs → OwnV E w' 0 v vs) → K (a.put (some d) v') w') : if Region.wanted o (yielded ops a.tmps) = true then Oper.wp Try.prog o a w K Q else E := by
  obtain ⟨A, c, rfl, _, _, hR⟩ := hr.slv.len
  obtain ⟨i0, hi, hz0, hz1, hz2⟩ := info_parts info_txs
  have hown' : w.ownsRow 0 23 1 x1 rs.length rs := h.o1
  refine step_append_any w hgd s x 30 ho 0 23 i0 (.slice none 0 0) 1 24 Try.underlying30 hi hz0 hz1 hz2 rfl (by decide) x1 rs.length _ hs hown' _ A 1 c _ hx hR (fun y hy => by rw [List.mem_singleton.1 hy]; exact hu) (by unfold maxLen; omega) (by omega) (Nat.zero_le _) ?_
  intro v' w' h1 h2 h3
  rw [hd]
  refine hK v' w' (h.app1 h2 h3 ?_) (fun E v vs hE hv => hv.kept h2 (hv.unlike h.o1 hE))
  unfold OwnV
  rw [List.length_append]
  exact h1
theorem sapp2 {Z : Nat → Prop} {w0 w : World} {g : Nat} {cs : Array Value} {x0 x1 x2 : Value} {l0 : List ByteArray} {rs : List Value} {l2 : List Int} {R : List (Value × List ByteArray)} {ops : Array Oper} {o : Oper} {a : Act} {K : Act → World → Prop} {Q : Exit → Act → World → Prop} {E : Prop} (d : Nat) (hd : o.dst = some d) (hgd : o.guard = none) (s x : Operand)
    (ho : o.op = .call { callee := .builtin .append, args := #[s, x], argTypes := #[31, 31] }) (h : Mid Z w0 w g cs x0 l0 x1 rs x2 l2 R) (hs : a.eval s = x2) (t : Value) (u : Int) (hx : a.eval x = t) (hr : OwnV 3 w 0 t ([u].map iv)) (hsmall : l2.length + 1 ≤ 2000000)
    (hK : ∀ v' w', Mid Z w0 w' g cs x0 l0 x1 rs v' (l2 ++ [u]) R → (∀ E v vs, E ≠ 3 → OwnV E w 0 v vs → OwnV E w' 0 v vs) → K (a.put (some d) v') w') : if Region.wanted o (yielded ops a.tmps) = true then Oper.wp Try.prog o a w K Q else E := by
  obtain ⟨A, c, rfl, _, _, hR⟩ := hr.slv.len
  obtain ⟨i0, hi, hz0, hz1, hz2⟩ := info_parts info_int
  have hown' : w.ownsRow 0 3 1 x2 l2.length (l2.map iv) := by have := h.o2; unfold OwnV at this; rwa [List.length_map] at this
  refine step_append_any w hgd s x 31 ho 0 3 i0 (.int .i64 0) 1 8 Try.underlying31 hi hz0 hz1 hz2 rfl (by decide) x2 l2.length _ hs hown' _ A 1 c _ hx hR (iv_one [u]) (by unfold maxLen; omega) (by omega) (Nat.zero_le _) ?_
  intro v' w' h1 h2 h3
  rw [hd]
  refine hK v' w' (h.app2 h2 h3 ?_) (fun E v vs hE hv => hv.kept h2 (hv.unlike h.o2 hE))
  unfold OwnV
  rw [List.length_map, List.length_append, List.map_append]
  exact h1
theorem own_one (E : TypeId) (w : World) (x : Value) : OwnV E (w.alloc (.cells #[x] E)) 0 (.slice (some ⟨w.heap.size, 0, none⟩) 1 1) [x] :=
  OwnV.mk (vs := [x]) (Nat.zero_le _) (Blk.new w E #[x]) (Nat.le_refl _) (by unfold maxLen; omega) rfl rfl
