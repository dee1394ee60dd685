/- Texts put together: YOb17. -/
import Derived.Test.YteffiedolcjjlaaQa26
/- obj's reader: items; slices.Clone of bytes. -/
namespace Go.Proofs.Yteffiedolcjjlaa.Ob
open Go.RowKit Go.Proofs.Yteffiedolcjjlaa.Sh
open Go.Proofs.Yteffiedolcjjlaa.Tx (OwnV SlV sv bl nameB reads_at texts_at toList_ne')

theorem Upd.then_below {g : Nat} {w w1 w2 : World} (h : Upd g w w1) (h2 : Below w.heap.size w1 w2) : Upd g w w2 := ⟨h2.os.trans h.os, h2.tape.trans h.tape, h2.output.trans h.output, Nat.le_trans h.size h2.size, fun k hk hn => (h2.block k hk).trans (h.block k hk hn)⟩
theorem Upd.grownBy {g : Nat} {w w1 : World} (h : Upd g w w1) : w.grownBy w1 (some g) := ⟨h.os, h.tape, h.output, h.size, fun k hk hn => h.block k hk (fun e => hn (by rw [e]))⟩
theorem row_ne {w : World} {T T' : TypeId} {B sz n g : Nat} {v : Value} {xs : List Value} {cs : Array Value} (h : w.ownsRow B T sz v n xs) (hg : Blk w g T' cs) (hT : T' ≠ T) : v.ownBlock = none ∨ v.ownBlock ≠ some g := by
  rcases h.2 with ⟨rfl, _⟩ | ⟨g', cap, cur, rfl, _, hb, _⟩
  · exact .inl rfl
  · right
    intro e
    have e' : g' = g := by simpa [Value.ownBlock] using e
    subst e'
    exact Blk.ne_ hg hb hT rfl
theorem OwnI.upd {T T' : TypeId} {w w1 : World} {B g : Nat} {v : Value} {l : List ItM} {cs : Array Value} (h : OwnI T w B v l) (hg : Blk w g T' cs) (hT : T' ≠ T) (hu : Upd g w w1) : OwnI T w1 B v l :=
  World.ownsRow.kept h hu.grownBy (row_ne h hg hT)
theorem RdAt.blk {w0 w : World} {g : Nat} {s : Rdr} (h : RdAt w0 w g s) : ∃ cs, Blk w g 173 cs := by
  obtain ⟨A, c, h1, _⟩ := h
  exact ⟨_, h1⟩
/-- A reader stays where a row of another type is written to. -/
theorem RdAt.row {w0 w w1 : World} {g : Nat} {s : Rdr} (h : RdAt w0 w g s) {T : TypeId} {B sz n : Nat} {v : Value} {xs : List Value} (ho : w.ownsRow B T sz v n xs) (hT : 173 ≠ T) (hg : w.grownBy w1 v.ownBlock) (hB : w0.heap.size ≤ B) (hB2 : B ≤ w.heap.size) : RdAt w0 w1 g s := by
  obtain ⟨A, c, h1, h2, h3, h4⟩ := h
  have hne := row_ne ho h1 hT
  have hbl : Below B w w1 := (Below.refl _ _).grown hg hB2 (fun k hk => (ho.lt k hk).1)
  refine ⟨A, c, h1.grown hg ?_, h2, h3, h4.trans (hbl.mono hB)⟩
  rcases hne with hn | hn
  · rw [hn]; simp
  · exact fun e => hn e.symm
theorem info_item : (Try.prog.info? 127).map (fun i => (i.zero, i.size, i.bytes)) = some (some (.agg #[.int .i64 0, .string ⟨#[]⟩, .string ⟨#[]⟩]), 3, 40) := by kernel_rfl
set_option maxRecDepth 100000 in
set_option maxHeartbeats 1600000 in
theorem app_item {ops : Array Oper} {rest : List Oper} {o : Oper} {a : Act} {Q : Exit → Act → World → Prop} (hgd : o.guard = none) (s x : Operand)
    (ho : o.op = .call { callee := .builtin .append, args := #[s, x], argTypes := #[70, 70] }) (w : World) (B : Nat) (v : Value) (ls : List ItM) (hs : a.eval s = v) (hown : OwnI 127 w B v ls)
    (it : ItM) (g : Nat) (hg : w.heap.size = g) (hx : a.eval x = .slice (some ⟨g, 0, none⟩) 1 1) (hsmall : ls.length + 1 ≤ 2000000) (hB : B ≤ w.heap.size)
    (h : ∀ v' w', OwnI 127 w' B v' (ls ++ [it]) → (w.alloc (.cells #[.int .i64 it.1, .string (str it.2.1), .string (str it.2.2)] 127)).grownBy w' v.ownBlock → wpList Try.prog ops Q rest (a.put o.dst v') w') :
    wpList Try.prog ops Q (o :: rest) a (w.alloc (.cells #[.int .i64 it.1, .string (str it.2.1), .string (str it.2.2)] 127)) := by
  subst hg
  obtain ⟨i0, hi, hz0, hz1, hz2⟩ := info_parts info_item
  have hr : Reads (w.alloc (.cells #[.int .i64 it.1, .string (str it.2.1), .string (str it.2.2)] 127)) (w.heap.size + 1) 3 (some ⟨w.heap.size, 0, none⟩) 1 ([it].flatMap itC) := by
    refine ⟨rfl, fun _ => ⟨_, rfl, by simp, fun j v hv => ?_⟩⟩
    rw [Addr.add_mid, cell_of_row _ _ _ _ 127 (0, 0) (heap_alloc_new w _), Nat.zero_add, ← hv]
    simp [itC]
  refine wpList_append_any _ hgd s x 70 ho B 127 i0 (.agg #[.int .i64 0, .string ⟨#[]⟩, .string ⟨#[]⟩]) 3 40 Try.underlying70 hi hz0 hz1 hz2 rfl (by decide) v ls.length _ hs (hown.alloc _) _ _ 1 1 _ hx hr (itC_one [it]) (by unfold maxLen; omega) (by omega) (by simp; omega) ?_
  intro v' w' h1 h2 _
  refine h v' w' ?_ h2
  unfold OwnI
  rw [List.length_append, List.flatMap_append]
  exact h1
theorem itemsR_zero (s : Rdr) : itemsR 0 s = ([], s) := rfl
theorem itemsR_fail (n : Nat) (s : Rdr) (h : s.2 = true) : itemsR n s = ([], s) := by
  cases n with
  | zero => rfl
  | succ n => rw [itemsR, if_pos h]
theorem itemsR_step (n : Nat) (s : Rdr) (h : s.2 = false) : itemsR (n + 1) s = ((itemR s).1 :: (itemsR n (itemR s).2).1, (itemsR n (itemR s).2).2) := by
  rw [itemsR, if_neg (by rw [h]; decide)]
theorem octR_len (s : Rdr) : (octR s).2.1.length ≤ s.1.length := by unfold octR; exact (takeR_len s 1).2
theorem numR_len (s : Rdr) : (numR s).2.1.length ≤ s.1.length := by
  unfold numR
  split
  · simp
  · simp
theorem textR_len (s : Rdr) : (textR s).2.1.length ≤ s.1.length := by unfold textR; exact Nat.le_trans (takeR_len _ _).2 (numR_len s)
theorem hashR_len (s : Rdr) : (hashR s).2.1.length ≤ s.1.length := by unfold hashR; exact (takeR_len s 32).2
theorem itemR_len (s : Rdr) : (itemR s).2.1.length ≤ s.1.length ∧ ((itemR s).2.2 = false → (itemR s).2.1.length + 1 ≤ s.1.length) := by
  refine ⟨by unfold itemR; exact Nat.le_trans (hashR_len _) (Nat.le_trans (textR_len _) (octR_len s)), ?_⟩
  obtain ⟨x, s', e⟩ : ∃ x s', itemR s = (x, s') := ⟨_, _, pe _⟩
  rw [e]
  intro hf
  obtain ⟨_, h2⟩ := itemR_back e hf
  rw [h2]
  unfold encI
  simp only [List.length_append, List.length_singleton]
  omega
theorem numR_le (s : Rdr) : (numR s).1 ≤ 72057594037927936 := by
  unfold numR
  split
  · rename_i h0
    exact (getE_back (t := s.1) (n := (getE s.1).1) (m := (getE s.1).2.1) (by rw [← h0])).2
  · simp
def ItemsPost (w0 w : World) (g : Nat) (l : List ItM) (s : Rdr) (e : Ending) (w' : World) : Prop := ∃ v, e = .returned v ∧ OwnI 127 w' w.heap.size v l ∧ RdAt w0 w' g s ∧ Upd g w w'
set_option maxRecDepth 100000 in
set_option maxHeartbeats 1600000 in
theorem ritems_any (w0 w : World) (g : Nat) (s : Rdr) (h : RdAt w0 w g s) (hlen : s.1.length ≤ 1000000) : Calls Try.prog 149 #[.pointer (some ⟨g, 0, none⟩)] w (ItemsPost w0 w g (itemsR (numR s).1 (numR s).2).1 (itemsR (numR s).1 (numR s).2).2) := by
  have HS := Lib.hid h
  have hnl : (numR s).2.1.length ≤ s.1.length := by
    unfold numR
    split
    · simp
    · simp
  obtain ⟨N, s0, e0⟩ : ∃ N s0, numR s = (N, s0) := ⟨_, _, pe _⟩
  have hw0 : w0.heap.size ≤ w.heap.size := by obtain ⟨_, _, _, _, _, h4⟩ := h; exact h4.size
  rw [e0] at hnl ⊢
  replace hnl : s0.1.length ≤ 1000000 := Nat.le_trans hnl hlen
  show Calls _ _ _ w (ItemsPost w0 w g (itemsR N s0).1 (itemsR N s0).2)
  have hnb := numR_le s
  rw [e0] at hnb
  have HNB : Hid (N ≤ 72057594037927936) := hnb
  have HE0 := Lib.hid e0
  have HNL := Lib.hid hnl
  clear h e0 hnl hlen hnb
  go_enter Try.func149, Try.ntmps149
  go_wp2_with fail
  refine (number_any w0 w g s HS.out).mono ?_
  rw [HE0.out]
  rintro e w1 ⟨rfl, hr1, hu1⟩
  have HR1 := Lib.hid hr1
  have HU1 := Lib.hid hu1
  clear hr1 hu1
  go_wp2_with fail
  go_loopw [3, 4] (fun b i wr => ∃ (n : Nat) (acc : List ItM) (q : Rdr), i = .int .i64 n ∧ OwnI 127 wr w.heap.size b acc ∧ RdAt w0 wr g q ∧ Upd g w wr ∧ itemsR N s0 = (acc ++ (itemsR n q).1, (itemsR n q).2) ∧ (q.2 = false → acc.length + q.1.length ≤ 1000000) ∧ acc.length ≤ 1000001 ∧ n ≤ 72057594037927936) (fun _ i _ => (intOf i).toNat)
  case atStart => exact ⟨N, [], s0, rfl, OwnI.nil_ _ _ _, HR1.out, HU1.out, by simp, fun _ => by simpa using HNL.out, by simp, HNB.out⟩
  case round =>
    obtain ⟨n, acc, q, rfl, ho, hr, hu, he, hb1, hb2, hb3⟩ := hrel
    have HO := Lib.hid ho
    have HR := Lib.hid hr
    have HU := Lib.hid hu
    have HE := Lib.hid he
    have HB1 := Lib.hid hb1
    have HB2 := Lib.hid hb2
    obtain ⟨A, c, h1, _⟩ := hr
    obtain ⟨x0, x1, _, _⟩ := two_cells h1
    obtain ⟨f, hf⟩ : ∃ f, q.2 = f := ⟨_, rfl⟩
    rw [hf] at x1
    have HF := Lib.hid hf
    clear ho hu he hb1 hb2 h1 hf x0
    rcases Nat.eq_zero_or_pos n with h0 | h0
    · have hn0 : (n : Int) ≤ 0 := by omega
      have HZ : Hid (itemsR N s0 = (acc, q)) := by
        unfold Hid
        have := HE.out
        rw [h0, itemsR_zero] at this
        simpa using this
      clear h0
      go_wp2_with fail
      go_ret
      rw [HZ.out]
      exact ⟨u3, rfl, HO.out, HR.out, HU.out⟩
    · have hn1 : (0 : Int) < (n : Int) := by omega
      cases f with
      | true =>
        have HZ : Hid (itemsR N s0 = (acc, q)) := by
          unfold Hid
          have := HE.out
          rw [itemsR_fail n q HF.out] at this
          simpa using this
        clear h0
        go_wp2_with fail
        go_ret
        rw [HZ.out]
        exact ⟨u3, rfl, HO.out, HR.out, HU.out⟩
      | false =>
        obtain ⟨m, hm⟩ : ∃ m, n = m + 1 := ⟨n - 1, by omega⟩
        have hwm : IntKind.i64.wrap ((n : Int) - 1) = (m : Int) := by rw [IntKind.wrap_i64]; omega
        have hn2 : (n : Int) ≤ 72057594037927936 := by omega
        have hn3 : (n : Int) - 1 = (m : Int) := by omega
        have HST : Hid (itemsR N s0 = ((acc ++ [(itemR q).1]) ++ (itemsR m (itemR q).2).1, (itemsR m (itemR q).2).2)) := by
          have := HE.out
          rw [hm, itemsR_step m q HF.out] at this
          unfold Hid
          rw [this]
          simp
        have HLN := Lib.hid (itemR_len q)
        have HM := Lib.hid hm
        clear hm h0
        have hw0' := hw0
        go_wp2_with fail
        refine (octet_any w0 wr g q HR.out).mono ?_
        rintro e w2 ⟨rfl, hr2, hu2⟩
        have HR2 := Lib.hid hr2
        have HU2 := Lib.hid (HU.out.trans hu2)
        obtain ⟨cs, hcs⟩ := HR.out.blk
        have HO2 := Lib.hid (HO.out.upd hcs (by decide) hu2)
        clear hr2 hu2 hcs x1
        go_wp2_with fail
        refine (text_any w0 w2 g _ HR2.out).mono ?_
        rintro e w3 ⟨rfl, hr3, hu3⟩
        have HR3 := Lib.hid hr3
        have HU3 := Lib.hid (HU2.out.trans hu3)
        obtain ⟨cs, hcs⟩ := HR2.out.blk
        have HO3 := Lib.hid (HO2.out.upd hcs (by decide) hu3)
        clear hr3 hu3 hcs
        go_wp2_with fail
        refine (hash_any w0 w3 g _ HR3.out).mono ?_
        rintro e w4 ⟨rfl, hr4, hu4⟩
        have HR4 := Lib.hid hr4
        have HU4 := Lib.hid (HU3.out.trans hu4)
        obtain ⟨cs, hcs⟩ := HR3.out.blk
        have HO4 := Lib.hid (HO3.out.upd hcs (by decide) hu4)
        have hz4 : w.heap.size ≤ w4.heap.size := HU4.out.size
        have hsm : acc.length + 1 ≤ 2000000 := by have := HB2.out; omega
        clear hr4 hu4 hcs
        go_wp2_with (at_builtin; refine app_item rfl (.tmp 18) (.tmp 26) rfl w4 w.heap.size u3 acc rfl HO4.out (itemR q).1 _ rfl rfl hsm hz4 ?_; intro v5 w5 ho5 hg5; have HO5 := Lib.hid ho5; have HG5 := Lib.hid hg5; clear ho5 hg5)
        go_roundw
        case rel =>
          have hA : RdAt w0 (w4.alloc (.cells #[.int .i64 (itemR q).1.1, .string (str (itemR q).1.2.1), .string (str (itemR q).1.2.2)] 127)) g (itemR q).2 := HR4.out.below ((Below.refl _ _).alloc (Nat.le_refl _) _)
          have hrow := World.ownsRow.alloc HO4.out (.cells #[.int .i64 (itemR q).1.1, .string (str (itemR q).1.2.1), .string (str (itemR q).1.2.2)] 127)
          have hz5 : w.heap.size ≤ (w4.alloc (.cells #[.int .i64 (itemR q).1.1, .string (str (itemR q).1.2.1), .string (str (itemR q).1.2.2)] 127)).heap.size := by simp; omega
          have hb5 : Below w.heap.size w4 w5 := ((Below.refl _ _).alloc hz4 _).grown HG5.out hz5 (fun k hk => (World.ownsRow.lt HO4.out k hk).1)
          refine ⟨m, acc ++ [(itemR q).1], (itemR q).2, by go_num, HO5.out, hA.row hrow (by decide) HG5.out hw0 hz5, HU4.out.then_below hb5, HST.out, fun hf => ?_, ?_, by omega⟩
          · have h1 := HB1.out HF.out
            have h2 := HLN.out.2 hf
            rw [List.length_append, List.length_singleton]
            omega
          · have h1 := HB1.out HF.out
            rw [List.length_append, List.length_singleton]
            omega
        case measure => have := HM.out; simp [intOf]; omega
end Go.Proofs.Yteffiedolcjjlaa.Ob
