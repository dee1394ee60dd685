/- Texts put together: VOb17, VOb18. -/
import Derived.Test.YtpfjlhpahmhkhaaGreatQv22
/- obj's reader: items; slices.Clone of bytes. -/
namespace Go.Proofs.YtpfjlhpahmhkhaaGreat.Ob
open Go.RowKit Go.Proofs.YtpfjlhpahmhkhaaGreat.Sh
open Go.Proofs.YtpfjlhpahmhkhaaGreat.Tx (OwnV SlV sv bl nameB reads_at texts_at toList_ne')
theorem Upd.then_below {g : Nat} {w w1 w2 : World} (h : Upd g w w1) (h2 : Below w.heap.size w1 w2) : Upd g w w2 := ⟨h2.os.trans h.os, h2.tape.trans h.tape, h2.output.trans h.output, Nat.le_trans h.size h2.size, fun k hk hn => (h2.block k hk).trans (h.block k hk hn)⟩
theorem Upd.grownBy {g : Nat} {w w1 : World} (h : Upd g w w1) : w.grownBy w1 (some g) := ⟨h.os, h.tape, h.output, h.size, fun k hk hn => h.block k hk (fun e => hn (by rw [e]))⟩
theorem row_ne {w : World} {T T' : TypeId} {B sz n g : Nat} {v : Value} {xs : List Value} {cs : Array Value} (h : w.ownsRow B T sz v n xs) (hg : Blk w g T' cs) (hT : T' ≠ T) : v.ownBlock = none ∨ v.ownBlock ≠ some g := by
 rcases h.2 with ⟨rfl, _⟩ | ⟨g', cap, cur, rfl, _, hb, _⟩
 ·exact .inl rfl
 ·right
  intro e
  have e' : g' = g := by simpa [Value.ownBlock] using e
  subst e'
  exact Blk.ne_ hg hb hT rfl
theorem OwnI.upd {T T' : TypeId} {w w1 : World} {B g : Nat} {v : Value} {l : List ItM} {cs : Array Value} (h : OwnI T w B v l) (hg : Blk w g T' cs) (hT : T' ≠ T) (hu : Upd g w w1) : OwnI T w1 B v l :=
 World.ownsRow.kept h hu.grownBy (row_ne h hg hT)
theorem RdAt.blk {w0 w : World} {g : Nat} {s : Rdr} (h : RdAt w0 w g s) : ∃ cs, Blk w g 355 cs := by
 obtain ⟨A, c, h1, _⟩ := h
 exact ⟨_, h1⟩
theorem RdAt.row {w0 w w1 : World} {g : Nat} {s : Rdr} (h : RdAt w0 w g s) {T : TypeId} {B sz n : Nat} {v : Value} {xs : List Value} (ho : w.ownsRow B T sz v n xs) (hT : 355 ≠ T) (hg : w.grownBy w1 v.ownBlock) (hB : w0.heap.size ≤ B) (hB2 : B ≤ w.heap.size) : RdAt w0 w1 g s := by
 obtain ⟨A, c, h1, h2, h3, h4⟩ := h
 have hne := row_ne ho h1 hT
 have hbl : Below B w w1 := (Below.refl _ _).grown hg hB2 (fun k hk => (ho.lt k hk).1)
 refine ⟨A, c, h1.grown hg ?_, h2, h3, h4.trans (hbl.mono hB)⟩
 rcases hne with hn | hn
 ·rw [hn]; simp
 ·exact fun e => hn e.symm
theorem info_item : (Tryz.prog.info? 345).map (fun i => (i.zero, i.size, i.bytes)) = some (some (.agg #[.int .i64 0, .string ⟨#[]⟩, .string ⟨#[]⟩]), 3, 40) := by kernel_rfl
set_option maxRecDepth 100000 in
set_option maxHeartbeats 1600000 in
theorem app_item {ops : Array Oper} {rest : List Oper} {o : Oper} {a : Act} {Q : Exit → Act → World → Prop} (hgd : o.guard = none) (s x : Operand)
  (ho : o.op = .call { callee := .builtin .append, args := #[s, x], argTypes := #[181, 181] }) (w : World) (B : Nat) (v : Value) (ls : List ItM) (hs : a.eval s = v) (hown : OwnI 345 w B v ls)
  (it : ItM) (g : Nat) (hg : w.heap.size = g) (hx : a.eval x = .slice (some ⟨g, 0, none⟩) 1 1) (hsmall : ls.length + 1 ≤ 2000000) (hB : B ≤ w.heap.size)
  (h : ∀ v' w', OwnI 345 w' B v' (ls ++ [it]) → (w.alloc (.cells #[.int .i64 it.1, .string (str it.2.1), .string (str it.2.2)] 345)).grownBy w' v.ownBlock → wpList Tryz.prog ops Q rest (a.put o.dst v') w') :
  wpList Tryz.prog ops Q (o :: rest) a (w.alloc (.cells #[.int .i64 it.1, .string (str it.2.1), .string (str it.2.2)] 345)) := by
 subst hg
 obtain ⟨i0, hi, hz0, hz1, hz2⟩ := info_parts info_item
 have hr : Reads (w.alloc (.cells #[.int .i64 it.1, .string (str it.2.1), .string (str it.2.2)] 345)) (w.heap.size + 1) 3 (some ⟨w.heap.size, 0, none⟩) 1 ([it].flatMap itC) := by
  refine ⟨rfl, fun _ => ⟨_, rfl, by simp, fun j v hv => ?_⟩⟩
  rw [Addr.add_mid, cell_of_row _ _ _ _ 345 (0, 0) (heap_alloc_new w _), Nat.zero_add, ← hv]
  simp [itC]
 refine wpList_append_any _ hgd s x 181 ho B 345 i0 (.agg #[.int .i64 0, .string ⟨#[]⟩, .string ⟨#[]⟩]) 3 40 Tryz.underlying181 hi hz0 hz1 hz2 rfl (by decide) v ls.length _ hs (hown.alloc _) _ _ 1 1 _ hx hr (itC_one [it]) (by unfold maxLen; omega) (by omega) (by simp; omega) ?_
 intro v' w' h1 h2 _
 refine h v' w' ?_ h2
 unfold OwnI
 rw [List.length_append, List.flatMap_append]
 exact h1
theorem itemsR_zero (s : Rdr) : itemsR 0 s = ([], s) := rfl
theorem itemsR_fail (n : Nat) (s : Rdr) (h : s.2 = true) : itemsR n s = ([], s) := by
 cases n with
 | zero => rfl
 | succ n => rw [itemsR, if_pos h]
theorem itemsR_step (n : Nat) (s : Rdr) (h : s.2 = false) : itemsR (n + 1) s = ((itemR s).1 :: (itemsR n (itemR s).2).1, (itemsR n (itemR s).2).2) := by
 rw [itemsR, if_neg (by rw [h]; decide)]
theorem octR_len (s : Rdr) : (octR s).2.1.length ≤ s.1.length := by unfold octR; exact (takeR_len s 1).2
theorem numR_len (s : Rdr) : (numR s).2.1.length ≤ s.1.length := by
 unfold numR
 split
 ·simp
 ·simp
theorem textR_len (s : Rdr) : (textR s).2.1.length ≤ s.1.length := by unfold textR; exact Nat.le_trans (takeR_len _ _).2 (numR_len s)
theorem hashR_len (s : Rdr) : (hashR s).2.1.length ≤ s.1.length := by unfold hashR; exact (takeR_len s 32).2
theorem itemR_len (s : Rdr) : (itemR s).2.1.length ≤ s.1.length ∧ ((itemR s).2.2 = false → (itemR s).2.1.length + 1 ≤ s.1.length) := by
 refine ⟨by unfold itemR; exact Nat.le_trans (hashR_len _) (Nat.le_trans (textR_len _) (octR_len s)), ?_⟩
 obtain ⟨x, s', e⟩ : ∃ x s', itemR s = (x, s') := ⟨_, _, pe _⟩
 rw [e]
 intro hf
 obtain ⟨_, h2⟩ := itemR_back e hf
 rw [h2]
 unfold encI
 simp only [List.length_append, List.length_singleton]
 omega
theorem numR_le (s : Rdr) : (numR s).1 ≤ 72057594037927936 := by
 unfold numR
 split
 ·rename_i h0
  exact (getE_back (t := s.1) (n := (getE s.1).1) (m := (getE s.1).2.1) (by rw [← h0])).2
 ·simp
def ItemsPost (w0 w : World) (g : Nat) (l : List ItM) (s : Rdr) (e : Ending) (w' : World) : Prop := ∃ v, e = .returned v ∧ OwnI 345 w' w.heap.size v l ∧ RdAt w0 w' g s ∧ Upd g w w'
set_option maxRecDepth 100000 in
set_option maxHeartbeats 1600000 in
theorem ritems_any (w0 w : World) (g : Nat) (s : Rdr) (h : RdAt w0 w g s) (hlen : s.1.length ≤ 1000000) : Calls Tryz.prog 317 #[.pointer (some ⟨g, 0, none⟩)] w (ItemsPost w0 w g (itemsR (numR s).1 (numR s).2).1 (itemsR (numR s).1 (numR s).2).2) := by
 have HS := Lib.hid h
 have hnl : (numR s).2.1.length ≤ s.1.length := by
  unfold numR
  split
  ·simp
  ·simp
 obtain ⟨N, s0, e0⟩ : ∃ N s0, numR s = (N, s0) := ⟨_, _, pe _⟩
 have hw0 : w0.heap.size ≤ w.heap.size := by obtain ⟨_, _, _, _, _, h4⟩ := h; exact h4.size
 rw [e0] at hnl ⊢
 replace hnl : s0.1.length ≤ 1000000 := Nat.le_trans hnl hlen
 show Calls _ _ _ w (ItemsPost w0 w g (itemsR N s0).1 (itemsR N s0).2)
 have hnb := numR_le s
 rw [e0] at hnb
 have HNB : Hid (N ≤ 72057594037927936) := hnb
 have HE0 := Lib.hid e0
 have HNL := Lib.hid hnl
 clear h e0 hnl hlen hnb
 go_enter Tryz.func317, Tryz.ntmps317
 go_wp2_with fail
 refine (number_any w0 w g s HS.out).mono ?_
 rw [HE0.out]
 rintro e w1 ⟨rfl, hr1, hu1⟩
 have HR1 := Lib.hid hr1
 have HU1 := Lib.hid hu1
 clear hr1 hu1
 go_wp2_with fail
 go_loopw [3, 4] (fun b i wr => ∃ (n : Nat) (acc : List ItM) (q : Rdr), i = .int .i64 n ∧ OwnI 345 wr w.heap.size b acc ∧ RdAt w0 wr g q ∧ Upd g w wr ∧ itemsR N s0 = (acc ++ (itemsR n q).1, (itemsR n q).2) ∧ (q.2 = false → acc.length + q.1.length ≤ 1000000) ∧ acc.length ≤ 1000001 ∧ n ≤ 72057594037927936) (fun _ i _ => (intOf i).toNat)
 case atStart => exact ⟨N, [], s0, rfl, OwnI.nil_ _ _ _, HR1.out, HU1.out, by simp, fun _ => by simpa using HNL.out, by simp, HNB.out⟩
 case round =>
  obtain ⟨n, acc, q, rfl, ho, hr, hu, he, hb1, hb2, hb3⟩ := hrel
  have HO := Lib.hid ho
  have HR := Lib.hid hr
  have HU := Lib.hid hu
  have HE := Lib.hid he
  have HB1 := Lib.hid hb1
  have HB2 := Lib.hid hb2
  obtain ⟨A, c, h1, _⟩ := hr
  obtain ⟨x0, x1, _, _⟩ := two_cells h1
  obtain ⟨f, hf⟩ : ∃ f, q.2 = f := ⟨_, rfl⟩
  rw [hf] at x1
  have HF := Lib.hid hf
  clear ho hu he hb1 hb2 h1 hf x0
  rcases Nat.eq_zero_or_pos n with h0 | h0
  ·have hn0 : (n : Int) ≤ 0 := by omega
   have HZ : Hid (itemsR N s0 = (acc, q)) := by
    unfold Hid
    have := HE.out
    rw [h0, itemsR_zero] at this
    simpa using this
   clear h0
   go_wp2_with fail
   go_ret
   rw [HZ.out]
   exact ⟨u3, rfl, HO.out, HR.out, HU.out⟩
  ·have hn1 : (0 : Int) < (n : Int) := by omega
   cases f with
   | true =>
    have HZ : Hid (itemsR N s0 = (acc, q)) := by
     unfold Hid
     have := HE.out
     rw [itemsR_fail n q HF.out] at this
     simpa using this
    clear h0
    go_wp2_with fail
    go_ret
    rw [HZ.out]
    exact ⟨u3, rfl, HO.out, HR.out, HU.out⟩
   | false =>
    obtain ⟨m, hm⟩ : ∃ m, n = m + 1 := ⟨n - 1, by omega⟩
    have hwm : IntKind.i64.wrap ((n : Int) - 1) = (m : Int) := by rw [IntKind.wrap_i64]; omega
    have hn2 : (n : Int) ≤ 72057594037927936 := by omega
    have hn3 : (n : Int) - 1 = (m : Int) := by omega
    have HST : Hid (itemsR N s0 = ((acc ++ [(itemR q).1]) ++ (itemsR m (itemR q).2).1, (itemsR m (itemR q).2).2)) := by
     have := HE.out
     rw [hm, itemsR_step m q HF.out] at this
     unfold Hid
     rw [this]
     simp
    have HLN := Lib.hid (itemR_len q)
    have HM := Lib.hid hm
    clear hm h0
    have hw0' := hw0
    go_wp2_with fail
    refine (octet_any w0 wr g q HR.out).mono ?_
    rintro e w2 ⟨rfl, hr2, hu2⟩
    have HR2 := Lib.hid hr2
    have HU2 := Lib.hid (HU.out.trans hu2)
    obtain ⟨cs, hcs⟩ := HR.out.blk
    have HO2 := Lib.hid (HO.out.upd hcs (by decide) hu2)
    clear hr2 hu2 hcs x1
    go_wp2_with fail
    refine (text_any w0 w2 g _ HR2.out).mono ?_
    rintro e w3 ⟨rfl, hr3, hu3⟩
    have HR3 := Lib.hid hr3
    have HU3 := Lib.hid (HU2.out.trans hu3)
    obtain ⟨cs, hcs⟩ := HR2.out.blk
    have HO3 := Lib.hid (HO2.out.upd hcs (by decide) hu3)
    clear hr3 hu3 hcs
    go_wp2_with fail
    refine (hash_any w0 w3 g _ HR3.out).mono ?_
    rintro e w4 ⟨rfl, hr4, hu4⟩
    have HR4 := Lib.hid hr4
    have HU4 := Lib.hid (HU3.out.trans hu4)
    obtain ⟨cs, hcs⟩ := HR3.out.blk
    have HO4 := Lib.hid (HO3.out.upd hcs (by decide) hu4)
    have hz4 : w.heap.size ≤ w4.heap.size := HU4.out.size
    have hsm : acc.length + 1 ≤ 2000000 := by have := HB2.out; omega
    clear hr4 hu4 hcs
    go_wp2_with (at_builtin; refine app_item rfl (.tmp 18) (.tmp 26) rfl w4 w.heap.size u3 acc rfl HO4.out (itemR q).1 _ rfl rfl hsm hz4 ?_; intro v5 w5 ho5 hg5; have HO5 := Lib.hid ho5; have HG5 := Lib.hid hg5; clear ho5 hg5)
    go_roundw
    case rel =>
     have hA : RdAt w0 (w4.alloc (.cells #[.int .i64 (itemR q).1.1, .string (str (itemR q).1.2.1), .string (str (itemR q).1.2.2)] 345)) g (itemR q).2 := HR4.out.below ((Below.refl _ _).alloc (Nat.le_refl _) _)
     have hrow := World.ownsRow.alloc HO4.out (.cells #[.int .i64 (itemR q).1.1, .string (str (itemR q).1.2.1), .string (str (itemR q).1.2.2)] 345)
     have hz5 : w.heap.size ≤ (w4.alloc (.cells #[.int .i64 (itemR q).1.1, .string (str (itemR q).1.2.1), .string (str (itemR q).1.2.2)] 345)).heap.size := by simp; omega
     have hb5 : Below w.heap.size w4 w5 := ((Below.refl _ _).alloc hz4 _).grown HG5.out hz5 (fun k hk => (World.ownsRow.lt HO4.out k hk).1)
     refine ⟨m, acc ++ [(itemR q).1], (itemR q).2, by go_num, HO5.out, hA.row hrow (by decide) HG5.out hw0 hz5, HU4.out.then_below hb5, HST.out, fun hf => ?_, ?_, by omega⟩
     ·have h1 := HB1.out HF.out
      have h2 := HLN.out.2 hf
      rw [List.length_append, List.length_singleton]
      omega
     ·have h1 := HB1.out HF.out
      rw [List.length_append, List.length_singleton]
      omega
    case measure => have := HM.out; simp [intOf]; omega
end Go.Proofs.YtpfjlhpahmhkhaaGreat.Ob
/- obj's reader: commit; slices.Clone of bytes. -/
namespace Go.Proofs.YtpfjlhpahmhkhaaGreat.Ob
open Go.RowKit Go.Proofs.YtpfjlhpahmhkhaaGreat.Sh
open Go.Proofs.YtpfjlhpahmhkhaaGreat.Tx (OwnV SlV sv bl nameB reads_at texts_at toList_ne')
set_option maxRecDepth 100000 in
set_option maxHeartbeats 800000 in
theorem clone_any (v : Value) (bs : List UInt8) (w : World) (h : Sl w v bs) (hn : bs.length ≤ 140737488351232) : Calls Tryz.prog 315 #[v] w (OwnPost w bs) := by
 obtain ⟨A, c, rfl, hlc, hcm, hI, hA⟩ := h
 unfold maxLen at hcm
 have hnil := fun (w : World) => Lib.run_eql_slice_nil (P := Tryz.prog) w 32 5 A bs.length c 0 0 Tryz.underlying32
 cases A with
 | none =>
  have hb : bs = [] := hA rfl
  subst hb
  simp only [List.length_nil, Option.isNone] at hnil ⊢
  go_enter Tryz.func315, Tryz.ntmps315
  go_wp2_with fail
  go_ret
  exact ⟨_, rfl, Own.nil_ _ _, Below.refl _ _⟩
 | some ad =>
  simp only [Option.isNone] at hnil
  have hI1 : In (w.alloc (.cells #[] 5)) (some ad) bs := hI.below ((Below.refl _ _).alloc (Nat.le_refl _) _)
  have hr := hI1.reads
  have hown : Own (w.alloc (.cells #[] 5)) w.heap.size (.slice (some ⟨w.heap.size, 0, none⟩) 0 0) [] :=
   World.ownsRow_made w #[] 0 (Nat.le_refl _) (by unfold maxLen; omega) rfl
  obtain ⟨l, hl⟩ : ∃ l, bs.length = l := ⟨_, rfl⟩
  rw [hl] at hr hn hnil ⊢
  have hsm : ([] : List UInt8).length + l ≤ 140737488355328 := by rw [List.length_nil]; omega
  have hz : w.heap.size ≤ (w.alloc (.cells #[] 5)).heap.size := by simp
  have HR := Lib.hid hr
  have HOWN := Lib.hid hown
  have HZ := Lib.hid hz
  clear hl hr hown hz hI hI1 hA hlc
  go_enter Tryz.func315, Tryz.ntmps315
  go_wp2_with (at_builtin; refine append_bytes rfl (.tmp 5) (.tmp 6) rfl _ w.heap.size (.slice (some ⟨w.heap.size, 0, none⟩) 0 0) [] rfl HOWN.out _ (some ad) l c bs rfl HR.out hsm HZ.out ?_; intro v3 w3 ho3 hb3; have HO := Lib.hid ho3; have HB := Lib.hid hb3; clear ho3 hb3)
  go_ret
  refine ⟨v3, rfl, ?_, ((Below.refl _ _).alloc (Nat.le_refl _) _).trans HB.out⟩
  simpa using HO.out
theorem OwnV.upd {T T' : TypeId} {w w1 : World} {B g : Nat} {v : Value} {l : List Value} {cs : Array Value} (h : Tx.OwnV T w B v l) (hg : Blk w g T' cs) (hT : T' ≠ T) (hu : Upd g w w1) : Tx.OwnV T w1 B v l :=
 World.ownsRow.kept h hu.grownBy (row_ne h hg hT)
def ComAt (w : World) (b B : Nat) (k : Int) (T : List UInt8) (P : List (List UInt8)) (st au : Int) (ms : List UInt8) : Prop :=
 ∃ A n c, Blk w b 183 #[.int .i64 k, .slice none 0 0, .slice none 0 0, .string (str T), .slice A n c, .int .i64 st, .int .i64 au, .string (str ms)] ∧ Tx.OwnV 9 w B (.slice A n c) ((P.map str).map Tx.sv)
structure Upd2 (g b : Nat) (w w' : World) : Prop where
 os : w'.os = w.os
 tape : w'.tape = w.tape
 output : w'.output = w.output
 size : w.heap.size ≤ w'.heap.size
 block : ∀ k, k < w.heap.size → k ≠ g → k ≠ b → w'.heap[k]? = w.heap[k]?
theorem Upd.two {g b : Nat} {w w' : World} (h : Upd g w w') : Upd2 g b w w' := ⟨h.os, h.tape, h.output, h.size, fun k hk hn _ => h.block k hk hn⟩
theorem Upd2.refl (g b : Nat) (w : World) : Upd2 g b w w := ⟨rfl, rfl, rfl, Nat.le_refl _, fun _ _ _ _ => rfl⟩
theorem Upd2.trans {g b : Nat} {w w' w2 : World} (h : Upd2 g b w w') (h2 : Upd2 g b w' w2) : Upd2 g b w w2 := ⟨h2.os.trans h.os, h2.tape.trans h.tape, h2.output.trans h.output, Nat.le_trans h.size h2.size, fun k hk hn hm => (h2.block k (Nat.lt_of_lt_of_le hk h.size) hn hm).trans (h.block k hk hn hm)⟩
theorem Upd2.set_ {g b : Nat} {w w' : World} (h : Upd2 g b w w') (i : Nat) (u : Value) : Upd2 g b w (w'.setCell ⟨b, i, none⟩ u) := ⟨h.os, h.tape, h.output, by simpa [World.setCell] using h.size, fun k hk hn hm => (Below.heap_setCell w' ⟨b, i, none⟩ u k hm).trans (h.block k hk hn hm)⟩
theorem Upd2.then_below {g b : Nat} {w w1 w2 : World} (h : Upd2 g b w w1) (h2 : Below w.heap.size w1 w2) : Upd2 g b w w2 := ⟨h2.os.trans h.os, h2.tape.trans h.tape, h2.output.trans h.output, Nat.le_trans h.size h2.size, fun k hk hn hm => (h2.block k hk).trans (h.block k hk hn hm)⟩
theorem ComAt.upd {w w' : World} {b B g : Nat} {k st au : Int} {T ms : List UInt8} {P : List (List UInt8)} {cs : Array Value} (h : ComAt w b B k T P st au ms) (hg : Blk w g 355 cs) (hu : Upd g w w') : ComAt w' b B k T P st au ms := by
 obtain ⟨A, n, c, h1, h2⟩ := h
 exact ⟨A, n, c, hu.blk h1 (Blk.ne_ h1 hg (by decide)), OwnV.upd h2 hg (by decide) hu⟩
theorem RdAt.set_ {w0 w : World} {g b i : Nat} {s : Rdr} {T : TypeId} {cs : Array Value} (h : RdAt w0 w g s) (hb : Blk w b T cs) (hT : T ≠ 355) (hz : w0.heap.size ≤ b) (u : Value) : RdAt w0 (w.setCell ⟨b, i, none⟩ u) g s := by
 have hn : b ≠ g := by
  obtain ⟨_, hg⟩ := h.blk
  exact Blk.ne_ hb hg hT
 exact h.upd ((Upd.refl b w).set_ i u) (fun e => hn e.symm) hz
theorem own_set {T T' : TypeId} {w : World} {B b i : Nat} {v : Value} {l : List Value} {cs : Array Value} (h : Tx.OwnV T w B v l) (hb : Blk w b T' cs) (hT : T' ≠ T) (u : Value) : Tx.OwnV T (w.setCell ⟨b, i, none⟩ u) B v l := OwnV.upd h hb hT ((Upd.refl b w).set_ i u)
theorem idsR_snoc (n : Nat) : ∀ s : Rdr, idsR (n + 1) s = ((idsR n s).1 ++ [(hashR (idsR n s).2).1], (hashR (idsR n s).2).2) := by
 induction n with
 | zero => intro s; rfl
 | succ n ih =>
  intro s
  rw [idsR, ih]
  conv => rhs; rw [idsR]
  rfl
theorem call_step {P : Program} {ops : Array Oper} {o : Oper} {a : Act} {w : World} {Kk : Act → World → Prop} {Q : Exit → Act → World → Prop} {E : Prop} (hgd : o.guard = none) (f : FuncId) (vs : Array Value) {R : Ending → World → Prop} (hrun : (execOp a.eval o).run P w = .ok (.enter f vs) w)
  (hc : Calls P f vs w R) (hR : ∀ e w', R e w' → ∃ v, e = .returned v ∧ Kk (a.put o.dst v) w') : if Region.wanted o (yielded ops a.tmps) = true then Oper.wp P o a w Kk Q else E := by
 have hw : Region.wanted o (yielded ops a.tmps) = true := by simp [Region.wanted, hgd]
 rw [if_pos hw]
 unfold Oper.wp
 rw [hrun, Oper.upon_enter]
 refine hc.mono ?_
 intro e w' h
 obtain ⟨v, rfl, hk⟩ := hR e w' h
 exact hk
theorem row_sep {w : World} {T T' : TypeId} {B sz n g : Nat} {v : Value} {xs : List Value} {cs : Array Value} (h : w.ownsRow B T sz v n xs) (hg : Blk w g T' cs) (hT : T' ≠ T) : some g ≠ v.ownBlock := by
 rcases row_ne h hg hT with h9 | h9
 ·rw [h9]; simp
 ·exact fun e => h9 e.symm
theorem reads_one (w : World) (u : ByteArray) : Reads (w.alloc (.cells #[.string u] 9)) (w.heap.size + 1) 1 (some ⟨w.heap.size, 0, none⟩) 1 [Tx.sv u] := by
 refine ⟨rfl, fun _ => ⟨_, rfl, by simp, fun j v hv => ?_⟩⟩
 rw [Addr.add_mid, cell_of_row _ _ _ _ 9 (0, 0) (heap_alloc_new w _), Nat.zero_add, ← hv]
 simp [Tx.sv]
def CommitPost (w0 w : World) (g b : Nat) (k : Int) (c : ComM) (s : Rdr) (e : Ending) (w' : World) : Prop := e = .returned (.tuple #[]) ∧ ComAt w' b w.heap.size k c.tree c.parents c.stamp c.author c.msg ∧ RdAt w0 w' g s ∧ Upd2 g b w w'
set_option maxRecDepth 100000 in
set_option maxHeartbeats 6400000 in
theorem commit_any (w0 w : World) (g b : Nat) (k : Int) (s : Rdr) (h : RdAt w0 w g s) (hb : Blk w b 183 #[.int .i64 k, .slice none 0 0, .slice none 0 0, .string (str []), .slice none 0 0, .int .i64 0, .int .i64 0, .string (str [])]) (hz : w0.heap.size ≤ b) :
  Calls Tryz.prog 318 #[.pointer (some ⟨g, 0, none⟩), .pointer (some ⟨b, 0, none⟩)] w (CommitPost w0 w g b k (commR s).1 (commR s).2) := by
 have hww : w0.heap.size ≤ w.heap.size := by obtain ⟨_, _, _, _, _, h4⟩ := h; exact h4.size
 obtain ⟨t, s1, e1⟩ : ∃ t s1, hashR s = (t, s1) := ⟨_, _, pe _⟩
 obtain ⟨n, s2, e2⟩ : ∃ n s2, octR s1 = (n, s2) := ⟨_, _, pe _⟩
 obtain ⟨ids, s3, e3⟩ : ∃ ids s3, idsR n s2 = (ids, s3) := ⟨_, _, pe _⟩
 obtain ⟨st, s4, e4⟩ : ∃ st s4, numR s3 = (st, s4) := ⟨_, _, pe _⟩
 obtain ⟨au, s5, e5⟩ : ∃ au s5, numR s4 = (au, s5) := ⟨_, _, pe _⟩
 obtain ⟨ms, s6, e6⟩ : ∃ ms s6, textR s5 = (ms, s6) := ⟨_, _, pe _⟩
 have hcom : commR s = (⟨t, ids, st, au, ms⟩, s6) := by
  unfold commR
  rw [e1]
  unfold commP
  simp only
  rw [e2]
  simp only
  rw [e3]
  unfold commS
  simp only
  rw [e4]
  unfold commA
  simp only
  rw [e5]
  unfold commM
  rw [e6]
 have hn255 : n ≤ 255 := by
  have : n = ((takeR s1 1).1.headD 0).toNat := by have := congrArg Prod.fst e2; rw [octR_eq] at this; exact this.symm
  rw [this]
  have := ((takeR s1 1).1.headD 0).toNat_lt
  omega
 have HN := Lib.hid hn255
 have E1 := Lib.hid e1
 have E2 := Lib.hid e2
 have E3 := Lib.hid e3
 have E4 := Lib.hid e4
 have E5 := Lib.hid e5
 have E6 := Lib.hid e6
 have HS := Lib.hid h
 have HB := Lib.hid hb
 rw [hcom]
 clear h hb e1 e2 e3 e4 e5 e6 hcom hn255
 go_enter Tryz.func318, Tryz.ntmps318
 go_wp2_with fail
 refine (hash_any w0 w g s HS.out).mono ?_
 rw [E1.out]
 rintro e w1 ⟨rfl, hr1, hu1⟩
 obtain ⟨cs, hcs⟩ := HS.out.blk
 have hb1 := hu1.blk HB.out (Blk.ne_ HB.out hcs (by decide))
 obtain ⟨-, -, -, x3, -, -, -, -⟩ := box_cells hb1
 have f3 := hb1.frozen 3
 have hb1' := hb1.set_ 3 (.string (str t))
 have HR1' : Hid (RdAt w0 (w1.setCell ⟨b, 3, none⟩ (.string (str t))) g s1) := hr1.set_ hb1 (by decide) hz _
 have HC1 : Hid (ComAt (w1.setCell ⟨b, 3, none⟩ (.string (str t))) b w.heap.size k t [] 0 0 []) := ⟨none, 0, 0, by simpa using hb1', Tx.OwnV.nil_ _ _⟩
 have HU1 : Hid (Upd2 g b w (w1.setCell ⟨b, 3, none⟩ (.string (str t)))) := hu1.two.set_ 3 _
 clear hr1 hu1 hcs hb1 hb1'
 go_wp2_with fail
 obtain ⟨W1, hW1⟩ : ∃ W, W = w1.setCell ⟨b, 3, none⟩ (.string (str t)) := ⟨_, rfl⟩
 rw [← hW1] at HR1' HC1 HU1 ⊢
 clear hW1 x3 f3
 refine (octet_any w0 W1 g s1 HR1'.out).mono ?_
 rw [E2.out]
 rintro e w2 ⟨rfl, hr2, hu2⟩
 obtain ⟨cs, hcs⟩ := HR1'.out.blk
 have HR2 := Lib.hid hr2
 have HC2 := Lib.hid (HC1.out.upd hcs hu2)
 have HU2 := Lib.hid (HU1.out.trans hu2.two)
 clear hr2 hu2 hcs
 go_wp2_with fail
 go_loopw [11] (fun i wr => ∃ (j : Nat), j ≤ n ∧ i = .int .i64 j ∧ ComAt wr b w.heap.size k t (idsR j s2).1 0 0 [] ∧ RdAt w0 wr g (idsR j s2).2 ∧ Upd2 g b w wr) (fun i _ => n - (intOf i).toNat)
 case atStart => exact ⟨0, Nat.zero_le _, rfl, HC2.out, HR2.out, HU2.out⟩
 case round =>
  obtain ⟨j, hj, rfl, hc, hr, hu⟩ := hrel
  have HC := Lib.hid hc
  have HR := Lib.hid hr
  have HU := Lib.hid hu
  have j0 : (0 : Int) ≤ (j : Int) := by omega
  by_cases hlt : j < n
  ·have j1 : (j : Int) < (n : Int) := by omega
   have hzr : w.heap.size ≤ wr.heap.size := HU.out.size
   have hpl := idsR_len j s2
   have HPL := Lib.hid hpl
   obtain ⟨i0, hi, hz0, hz1, hz2⟩ := info_parts Tx.info_str
   obtain ⟨A, pn, c, hbk, hown⟩ := hc
   have hpn : pn = j := by
    obtain ⟨A', c', hv, _⟩ := hown.length
    injection hv with _ e _
    rw [e, List.length_map, List.length_map, hpl]
   subst hpn
   have x4 := hbk.cell 4
   have f4 := hbk.frozen 4
   have HBK := Lib.hid hbk
   have HOWN := Lib.hid hown
   obtain ⟨cs, hcs⟩ := hr.blk
   have HCS := Lib.hid hcs
   have HNE : Hid (b ≠ g) := Blk.ne_ hbk hcs (by decide)
   obtain ⟨y, q, eq⟩ : ∃ y q, hashR (idsR pn s2).2 = (y, q) := ⟨_, _, pe _⟩
   have EQ := Lib.hid eq
   have HSN : Hid (idsR (pn + 1) s2 = ((idsR pn s2).1 ++ [y], q)) := by
    unfold Hid
    rw [idsR_snoc, EQ.out]
   have HRD : Hid (RdAt w0 wr.drew g (idsR pn s2).2) := HR.out.below (Below.refl _ _).drew
   clear hr hu hbk hown hcs hpl eq
   go_wp2_with fail
   have hpn9 : pn ≤ 255 := by have := HN.out; omega
   go_region_law (first
    | (have _ := N3; refine step_append_any _ rfl (.tmp 17) (.tmp 20) 50 rfl w.heap.size 9 i0 (.string ⟨#[]⟩) 1 16 Tryz.underlying50 hi hz0 hz1 hz2 rfl (by decide) (.slice A pn c) pn _ rfl (by exact HOWA.out) _ (some ⟨w3.heap.size, 0, none⟩) 1 1 [Tx.sv (str y)] rfl (by exact HRA.out) (Tx.sv_one [str y]) (by unfold maxLen; omega) (by omega) (by exact HZA.out) ?_; intro v5 w5 ho5 hg5 hk5; have HG5 := Lib.hid hg5; have hb5 := HBKA.out.grown hg5 HNV.out; have x4b := hb5.cell 4; have f4b := hb5.frozen 4; have HB5 := Lib.hid hb5; have HO5 : Hid (Tx.OwnV 9 w5 w.heap.size v5 ((((idsR pn s2).1 ++ [y]).map str).map Tx.sv)) := (by unfold Hid Tx.OwnV; rw [List.length_map, List.length_map, List.length_append, HPL.out, List.map_append, List.map_append]; exact ho5); obtain ⟨A5, c5, hv5, _, _⟩ := HO5.out.length; subst hv5; clear ho5 hg5 hk5 hb5)
    | (refine call_step rfl 358 #[.pointer (some ⟨g, 0, none⟩)] (by go_simp) (hash_any w0 _ g _ (by exact HRD.out)) ?_; rw [EQ.out]; rintro e w3 ⟨rfl, hr3, hu3⟩; refine ⟨_, rfl, ?_⟩; have N3 : True := trivial; have HR3 := Lib.hid hr3; have HU3 : Hid (Upd g wr w3) := ⟨hu3.os, hu3.tape, hu3.output, hu3.size, hu3.block⟩; have HBK3 := Lib.hid (HU3.out.blk HBK.out HNE.out); have x4' := HBK3.out.cell 4; have f4' := HBK3.out.frozen 4; have HOW3 := Lib.hid (OwnV.upd HOWN.out HCS.out (by decide) HU3.out); have HZ3 : Hid (w.heap.size ≤ w3.heap.size) := Nat.le_trans hzr HU3.out.size; have HBKA : Hid (Blk (w3.alloc (.cells #[.string (str y)] 9)) b 183 _) := HBK3.out.alloc _; have x4a := HBKA.out.cell 4; have f4a := HBKA.out.frozen 4; have HOWA : Hid ((w3.alloc (.cells #[.string (str y)] 9)).ownsRow w.heap.size 9 1 (.slice A pn c) pn (((idsR pn s2).1.map str).map Tx.sv)) := (by have h9 := HOW3.out.alloc (.cells #[.string (str y)] 9); unfold Tx.OwnV at h9; rw [List.length_map, List.length_map, HPL.out] at h9; exact h9); have HNV : Hid (some b ≠ (Value.slice A pn c).ownBlock) := row_sep HOWA.out HBKA.out (by decide); have HRA : Hid (Reads (w3.alloc (.cells #[.string (str y)] 9)) (w3.heap.size + 1) 1 (some ⟨w3.heap.size, 0, none⟩) 1 [Tx.sv (str y)]) := reads_one w3 (str y); have HZA : Hid (w.heap.size ≤ (w3.alloc (.cells #[.string (str y)] 9)).heap.size) := (by unfold Hid; have := HZ3.out; simp; omega); clear hr3 hu3))
   all_goals
    go_wp2_with fail
    go_roundw
    case rel =>
     have hrow : RdAt w0 w5 g q := (HR3.out.below ((Below.refl _ _).alloc (Nat.le_refl _) _)).row HOWA.out (by decide) HG5.out hww HZA.out
     have hb5 : Below w.heap.size w3 w5 := ((Below.refl _ _).alloc HZ3.out _).grown HG5.out HZA.out (fun k hk => (World.ownsRow.lt HOWA.out k hk).1)
     refine ⟨pn + 1, by omega, by go_num, ?_, ?_, ?_⟩
     ·rw [HSN.out]
      refine ⟨A5, _, c5, ?_, own_set HO5.out HB5.out (by decide) _⟩
      have h9 := HB5.out.set_ 4 (.slice A5 ((((idsR pn s2).1 ++ [y]).map str).map Tx.sv).length c5)
      simpa using h9
     ·rw [HSN.out]
      exact hrow.set_ HB5.out (by decide) hz _
     ·exact ((HU.out.trans HU3.out.two).then_below hb5).set_ 4 _
    case measure => simp [intOf]; omega
  ·obtain rfl : j = n := by omega
   have HCn : Hid (ComAt wr b w.heap.size k t ids 0 0 []) := by unfold Hid; have := HC.out; rw [E3.out] at this; exact this
   have HRn : Hid (RdAt w0 wr g s3) := by unfold Hid; have := HR.out; rw [E3.out] at this; exact this
   obtain ⟨W3, hW3⟩ : ∃ W, W = wr := ⟨_, rfl⟩
   subst hW3
   clear hc hr hu HC HR
   go_wp2_with fail
   refine (number_any w0 W3 g s3 HRn.out).mono ?_
   rw [E4.out]
   rintro e w4 ⟨rfl, hr4, hu4⟩
   obtain ⟨cs, hcs⟩ := HRn.out.blk
   obtain ⟨A, pn, c, hb4, ho4⟩ := HCn.out.upd hcs hu4
   have HU4 := Lib.hid (HU.out.trans hu4.two)
   have x5 := hb4.cell 5
   have f5 := hb4.frozen 5
   have HR4 : Hid (RdAt w0 (w4.setCell ⟨b, 5, none⟩ (.int .i64 (st : Int))) g s4) := hr4.set_ hb4 (by decide) hz _
   have HC4 : Hid (ComAt (w4.setCell ⟨b, 5, none⟩ (.int .i64 (st : Int))) b w.heap.size k t ids st 0 []) := ⟨A, pn, c, by simpa using hb4.set_ 5 (.int .i64 (st : Int)), own_set ho4 hb4 (by decide) _⟩
   have HU4' : Hid (Upd2 g b w (w4.setCell ⟨b, 5, none⟩ (.int .i64 (st : Int)))) := HU4.out.set_ 5 _
   clear hr4 hu4 hcs hb4 ho4
   go_wp2_with fail
   obtain ⟨W4, hW4⟩ : ∃ W, W = w4.setCell ⟨b, 5, none⟩ (.int .i64 (st : Int)) := ⟨_, rfl⟩
   rw [← hW4] at HR4 HC4 HU4' ⊢
   clear hW4 x5 f5
   refine (number_any w0 W4 g s4 HR4.out).mono ?_
   rw [E5.out]
   rintro e w5 ⟨rfl, hr5, hu5⟩
   obtain ⟨cs, hcs⟩ := HR4.out.blk
   obtain ⟨A, pn, c, hb5, ho5⟩ := HC4.out.upd hcs hu5
   have HU5 := Lib.hid (HU4'.out.trans hu5.two)
   have x6 := hb5.cell 6
   have f6 := hb5.frozen 6
   have HR5 : Hid (RdAt w0 (w5.setCell ⟨b, 6, none⟩ (.int .i64 (au : Int))) g s5) := hr5.set_ hb5 (by decide) hz _
   have HC5 : Hid (ComAt (w5.setCell ⟨b, 6, none⟩ (.int .i64 (au : Int))) b w.heap.size k t ids st au []) := ⟨A, pn, c, by simpa using hb5.set_ 6 (.int .i64 (au : Int)), own_set ho5 hb5 (by decide) _⟩
   have HU5' : Hid (Upd2 g b w (w5.setCell ⟨b, 6, none⟩ (.int .i64 (au : Int)))) := HU5.out.set_ 6 _
   clear hr5 hu5 hcs hb5 ho5
   go_wp2_with fail
   obtain ⟨W5, hW5⟩ : ∃ W, W = w5.setCell ⟨b, 6, none⟩ (.int .i64 (au : Int)) := ⟨_, rfl⟩
   rw [← hW5] at HR5 HC5 HU5' ⊢
   clear hW5 x6 f6
   refine (text_any w0 W5 g s5 HR5.out).mono ?_
   rw [E6.out]
   rintro e w6 ⟨rfl, hr6, hu6⟩
   obtain ⟨cs, hcs⟩ := HR5.out.blk
   obtain ⟨A, pn, c, hb6, ho6⟩ := HC5.out.upd hcs hu6
   have HU6 := Lib.hid (HU5'.out.trans hu6.two)
   have x7 := hb6.cell 7
   have f7 := hb6.frozen 7
   have HR6 : Hid (RdAt w0 (w6.setCell ⟨b, 7, none⟩ (.string (str ms))) g s6) := hr6.set_ hb6 (by decide) hz _
   have HC6 : Hid (ComAt (w6.setCell ⟨b, 7, none⟩ (.string (str ms))) b w.heap.size k t ids st au ms) := ⟨A, pn, c, by simpa using hb6.set_ 7 (.string (str ms)), own_set ho6 hb6 (by decide) _⟩
   have HU6' : Hid (Upd2 g b w (w6.setCell ⟨b, 7, none⟩ (.string (str ms)))) := HU6.out.set_ 7 _
   clear hr6 hu6 hcs hb6 ho6
   go_wp2_with fail
   go_end0
   exact ⟨rfl, HC6.out, HR6.out, HU6'.out⟩
end Go.Proofs.YtpfjlhpahmhkhaaGreat.Ob
