/- Texts put together: UOb7, UOb8. -/
import Derived.Test.YtbenkmihkbjgeaaGreatQu34
/- obj: putNumber, putText, putHash. -/
namespace Go.Proofs.YtbenkmihkbjgeaaGreat.Ob
open Go.RowKit Go.Proofs.YtbenkmihkbjgeaaGreat.Sh
open Go.Proofs.YtbenkmihkbjgeaaGreat.Tx (OwnV SlV sv bl nameB reads_at texts_at toList_ne')
structure Kp (B : Nat) (w w' : World) : Prop where
 below : Below B w w'
 blk : ∀ k t cs, Blk w k t cs → t ≠ 5 → Blk w' k t cs
theorem Kp.refl (B : Nat) (w : World) : Kp B w w := ⟨Below.refl _ _, fun _ _ _ h _ => h⟩
theorem Kp.trans {B : Nat} {w w1 w2 : World} (h : Kp B w w1) (h2 : Kp B w1 w2) : Kp B w w2 := ⟨h.below.trans h2.below, fun k t cs hb ht => h2.blk k t cs (h.blk k t cs hb ht) ht⟩
theorem Kp.of_below {B : Nat} {w w' : World} (h : Below w.heap.size w w') (hB : B ≤ w.heap.size) : Kp B w w' := ⟨h.mono hB, fun _ _ _ hb _ => hb.below h hb.lt⟩
theorem Kp.alloc {B : Nat} {w w' : World} (h : Kp B w w') (hB : B ≤ w'.heap.size) (o : Obj) : Kp B w (w'.alloc o) := h.trans (Kp.of_below ((Below.refl _ _).alloc (Nat.le_refl _) o) hB)
theorem Kp.size {B : Nat} {w w' : World} (h : Kp B w w') : w.heap.size ≤ w'.heap.size := h.below.size
theorem Kp.grown {B : Nat} {w w' : World} {v : Value} {bs : List UInt8} (hown : Own w B v bs) (h : w.grownBy w' v.ownBlock) (hB : B ≤ w.heap.size) : Kp B w w' := by
 refine ⟨(Below.refl _ _).grown h hB (fun k hk => (World.ownsRow.lt hown k hk).1), fun k t cs hb ht => hb.grown h ?_⟩
 intro e
 rcases hown.2 with ⟨rfl, _⟩ | ⟨g, cap, cur, rfl, _, hg, _⟩
 ·cases e
 ·have e' : k = g := by simpa [Value.ownBlock] using e
  subst e'
  exact Blk.ne_ hb hg ht rfl
def AppPost (w : World) (B : Nat) (bs news : List UInt8) (e : Ending) (w' : World) : Prop := ∃ v, e = .returned v ∧ Own w' B v (bs ++ news) ∧ Kp B w w'
theorem app_bytes {ops : Array Oper} {rest : List Oper} {o : Oper} {a : Act} {Q : Exit → Act → World → Prop} (hgd : o.guard = none) (s x : Operand)
  (ho : o.op = .call { callee := .builtin .append, args := #[s, x], argTypes := #[45, 45] }) (w : World) (B : Nat) (v : Value) (bs : List UInt8) (hs : a.eval s = v) (hown : Own w B v bs)
  (B' : Nat) (A : Option Addr) (m c : Nat) (news : List UInt8) (hx : a.eval x = .slice A m c) (hr : Reads w B' 1 A m (news.map bv)) (hsmall : bs.length + m ≤ 140737488355328) (hB : B ≤ w.heap.size)
  (h : ∀ v' w', Own w' B v' (bs ++ news) → Kp B w w' → wpList Tryz.prog ops Q rest (a.put o.dst v') w') : wpList Tryz.prog ops Q (o :: rest) a w := by
 obtain ⟨i0, hi, hz0, hz1, hz2⟩ := info_parts info5
 have hm : news.length = m := by have := hr.1; simpa using this
 refine wpList_append_any w hgd s x 45 ho B 5 i0 (.int .u8 0) 1 1 Tryz.underlying45 hi hz0 hz1 hz2 rfl (by decide) v bs.length _ hs hown B' A m c _ hx hr (bv_one news) (by unfold maxLen; omega) (by omega) hB ?_
 intro v' w' h1 h2 _
 refine h v' w' ?_ (Kp.grown hown h2 hB)
 unfold Own
 rw [List.length_append, hm, List.map_append]
 exact h1
theorem app_byte {ops : Array Oper} {rest : List Oper} {o : Oper} {a : Act} {Q : Exit → Act → World → Prop} (hgd : o.guard = none) (s x : Operand)
  (ho : o.op = .call { callee := .builtin .append, args := #[s, x], argTypes := #[45, 45] }) (w : World) (B : Nat) (v : Value) (bs : List UInt8) (hs : a.eval s = v) (hown : Own w B v bs)
  (k : Int) (u : UInt8) (hu : bi u = k) (g : Nat) (hg : w.heap.size = g) (hx : a.eval x = .slice (some ⟨g, 0, none⟩) 1 1) (hsmall : bs.length + 1 ≤ 140737488355328) (hB : B ≤ w.heap.size)
  (h : ∀ v' w', Own w' B v' (bs ++ [u]) → Kp B w w' → wpList Tryz.prog ops Q rest (a.put o.dst v') w') : wpList Tryz.prog ops Q (o :: rest) a (w.alloc (.cells #[.int .u8 k] 5)) := by
 subst hu hg
 refine app_bytes hgd s x ho _ B v bs hs (hown.alloc _) _ _ 1 1 [u] hx (reads_new _ [u] _ rfl 1 rfl) hsmall (by simp; omega) ?_
 intro v' w' h1 h2
 exact h v' w' h1 (((Kp.refl _ _).alloc hB _).trans h2)
theorem str_cells (us : List UInt8) : Lib.strCells (str us) = us.map bv := by
 unfold Lib.strCells str
 apply List.map_congr_left
 intro u _
 unfold bv bi
 rfl
theorem app_str {ops : Array Oper} {rest : List Oper} {o : Oper} {a : Act} {Q : Exit → Act → World → Prop} (hgd : o.guard = none) (s x : Operand)
  (ho : o.op = .call { callee := .builtin .append, args := #[s, x], argTypes := #[45, 9] }) (w : World) (B : Nat) (v : Value) (bs : List UInt8) (hs : a.eval s = v) (hown : Own w B v bs)
  (us : List UInt8) (hx : a.eval x = .string (str us)) (hsmall : bs.length + us.length ≤ 140737488355328) (hB : B ≤ w.heap.size)
  (h : ∀ v' w', Own w' B v' (bs ++ us) → Kp B w w' → wpList Tryz.prog ops Q rest (a.put o.dst v') w') : wpList Tryz.prog ops Q (o :: rest) a w := by
 obtain ⟨i0, hi, hz0, hz1, hz2⟩ := info_parts info5
 have hsz := str_size us
 refine Lib.wpList_append_own_string w hgd s x 45 9 ho B 5 i0 Tryz.underlying45 Tryz.underlying9 hi hz0 hz1 hz2 v bs.length _ hs hown (str us) hx (by unfold maxLen; omega) (by omega) hB ?_
 intro v' w' h1 h2 _
 refine h v' w' ?_ (Kp.grown hown h2 hB)
 unfold Own
 rw [List.length_append, List.map_append, ← str_cells us, ← hsz]
 exact h1
theorem Own.based {w : World} {B B' : Nat} {v : Value} {bs : List UInt8} (h : Own w B v bs) (hB : B' ≤ B) : Own w B' v bs := by
 refine ⟨h.1, ?_⟩
 rcases h.2 with h0 | ⟨g, cap, cur, hv, hb, rest⟩
 ·exact .inl h0
 ·exact .inr ⟨g, cap, cur, hv, by omega, rest⟩
set_option maxRecDepth 100000 in
set_option maxHeartbeats 800000 in
theorem putNumber_any (v : Value) (bs : List UInt8) (n B : Nat) (w : World) (h : Own w B v bs) (hn : n ≤ 72057594037927936) (hl : bs.length ≤ 100000000) (hB : B ≤ w.heap.size) :
  Calls Tryz.prog 189 #[v, .int .i64 (n : Int)] w (AppPost w B bs (putL n)) := by
 have HO := Lib.hid h
 clear h
 go_enter Tryz.func189, Tryz.ntmps189
 go_wp2_with fail
 refine (put_any n w hn).mono ?_
 rintro e w1 ⟨u, rfl, hu, hb⟩
 obtain ⟨A, c, rfl, h1, h2, h3, h4⟩ := hu.sl
 have HI := Lib.hid h3.reads
 have HO1 := Lib.hid (HO.out.below hb)
 have HB1 := Lib.hid (Kp.of_below hb hB)
 have hz : B ≤ w1.heap.size := Nat.le_trans hB hb.size
 have hs := putL_len9 hn
 have hsm : bs.length + (putL n).length ≤ 140737488355328 := by omega
 obtain ⟨l, hl'⟩ : ∃ l, (putL n).length = l := ⟨_, rfl⟩
 have HLL := Lib.hid hl'
 rw [hl'] at HI hsm ⊢
 clear hu hb h1 h2 h3 h4 hs hl'
 go_wp2_with (at_builtin; refine app_bytes rfl (.tmp 12) (.tmp 13) rfl w1 B v bs rfl HO1.out _ A l c (putL n) rfl HI.out hsm hz ?_; intro v3 w3 ho3 hb3; have HO3 := Lib.hid ho3; have HB3 := Lib.hid hb3; clear ho3 hb3)
 go_ret
 exact ⟨v3, rfl, HO3.out, HB1.out.trans HB3.out⟩
set_option maxRecDepth 100000 in
set_option maxHeartbeats 800000 in
theorem putText_any (v : Value) (bs us : List UInt8) (B : Nat) (w : World) (h : Own w B v bs) (hn : us.length ≤ 1000000) (hl : bs.length ≤ 90000000) (hB : B ≤ w.heap.size) :
  Calls Tryz.prog 190 #[v, .string (str us)] w (AppPost w B bs (putL us.length ++ us)) := by
 have HO := Lib.hid h
 clear h
 have hsz := str_size us
 go_enter Tryz.func190, Tryz.ntmps190
 go_wp2_with fail
 refine (putNumber_any v bs us.length B w HO.out (by omega) (by omega) hB).mono ?_
 rintro e w1 ⟨u, rfl, hu, hb⟩
 have hs := putL_len9 (show us.length ≤ 72057594037927936 from by omega)
 have HO1 := Lib.hid hu
 have HB1 := Lib.hid hb
 have hz : B ≤ w1.heap.size := Nat.le_trans hB hb.size
 have hsm : (bs ++ putL us.length).length + us.length ≤ 140737488355328 := by rw [List.length_append]; omega
 clear hu hb hs
 go_wp2_with (at_builtin; refine app_str rfl (.tmp 8) (.tmp 9) rfl w1 B u _ rfl HO1.out us rfl hsm hz ?_; intro v3 w3 ho3 hb3; have HO3 := Lib.hid ho3; have HB3 := Lib.hid hb3; clear ho3 hb3)
 go_ret
 exact ⟨v3, rfl, by rw [← List.append_assoc]; exact HO3.out, HB1.out.trans HB3.out⟩
set_option maxRecDepth 100000 in
set_option maxHeartbeats 800000 in
theorem putHash_any (v : Value) (bs id : List UInt8) (B : Nat) (w : World) (h : Own w B v bs) (hn : validB id = true) (hl : bs.length ≤ 90000000) (hB : B ≤ w.heap.size) :
  Calls Tryz.prog 191 #[v, .string (str id)] w (AppPost w B bs (unhexL id)) := by
 have HO := Lib.hid h
 clear h
 unfold validB at hn
 rw [Bool.and_eq_true, beq_iff_eq] at hn
 have hlen := unhexL_length id
 have hsm : bs.length + (unhexL id).length ≤ 140737488355328 := by omega
 go_enter Tryz.func191, Tryz.ntmps191
 go_wp2_with fail
 refine (unhex_yes id w hn.2 (by omega)).mono ?_
 rintro e w1 ⟨u, rfl, hu, hb⟩
 obtain ⟨A, c, rfl, h1, h2, h3, h4⟩ := hu.sl
 have HI := Lib.hid h3.reads
 have HO1 := Lib.hid (HO.out.below hb)
 have HB1 := Lib.hid (Kp.of_below hb hB)
 have hz : B ≤ w1.heap.size := Nat.le_trans hB hb.size
 obtain ⟨l, hl'⟩ : ∃ l, (unhexL id).length = l := ⟨_, rfl⟩
 rw [hl'] at HI hsm ⊢
 clear hu hb h1 h2 h3 h4 hl' hlen hn
 go_wp2_with (at_builtin; refine app_bytes rfl (.tmp 12) (.tmp 13) rfl w1 B v bs rfl HO1.out _ A l c (unhexL id) rfl HI.out hsm hz ?_; intro v3 w3 ho3 hb3; have HO3 := Lib.hid ho3; have HB3 := Lib.hid hb3; clear ho3 hb3)
 go_ret
 exact ⟨v3, rfl, HO3.out, HB1.out.trans HB3.out⟩
end Go.Proofs.YtbenkmihkbjgeaaGreat.Ob
/- obj: putItems. -/
namespace Go.Proofs.YtbenkmihkbjgeaaGreat.Ob
open Go.RowKit Go.Proofs.YtbenkmihkbjgeaaGreat.Sh
open Go.Proofs.YtbenkmihkbjgeaaGreat.Tx (OwnV SlV sv bl nameB reads_at texts_at toList_ne')
def encI (x : ItM) : List UInt8 := [UInt8.ofNat x.1.toNat] ++ (putL x.2.1.length ++ x.2.1) ++ unhexL x.2.2
def encIs (l : List ItM) : List UInt8 := putL l.length ++ l.flatMap encI
theorem validB_len {id : List UInt8} (h : validB id = true) : id.length = 64 ∧ hexOk id = true := by
 unfold validB at h
 rwa [Bool.and_eq_true, beq_iff_eq] at h
theorem nameB_len {s : List UInt8} (h : nameB s = true) : 1 ≤ s.length ∧ s.length ≤ 64 := by
 rw [Tx.nameB_eq] at h
 simp only [Bool.and_eq_true, decide_eq_true_eq] at h
 omega
theorem itB_of {x : ItM} (h : itB x = true) : 1 ≤ x.1 ∧ x.1 ≤ 4 ∧ nameB x.2.1 = true ∧ validB x.2.2 = true := by
 unfold itB at h
 simp only [Bool.and_eq_true, decide_eq_true_eq] at h
 exact ⟨h.1.1.1, h.1.1.2, h.1.2, h.2⟩
theorem encI_len {x : ItM} (h : itB x = true) : (encI x).length ≤ 106 := by
 obtain ⟨_, _, h3, h4⟩ := itB_of h
 have := nameB_len h3
 have := validB_len h4
 have := putL_len9 (show x.2.1.length ≤ 72057594037927936 from by omega)
 unfold encI
 simp only [List.length_append, List.length_cons, List.length_nil, unhexL_length]
 omega
theorem itemsB_of {l : List ItM} (h : itemsB l = true) : l.length ≤ 256 ∧ ∀ (k : Nat) (x : ItM), l[k]? = some x → itB x = true := by
 unfold itemsB at h
 rw [Bool.and_eq_true, decide_eq_true_eq, List.all_eq_true] at h
 refine ⟨h.1, fun k x hx => ?_⟩
 have hk := (List.getElem?_eq_some_iff.1 hx).1
 have h2 := h.2 k (List.mem_range.2 hk)
 unfold itemJ at h2
 rw [List.getD_eq_getElem?_getD, hx, Bool.and_eq_true] at h2
 exact h2.1
theorem encIs_len {l : List ItM} (h : ∀ (k : Nat) (x : ItM), l[k]? = some x → itB x = true) : (l.flatMap encI).length ≤ l.length * 106 := by
 induction l with
 | nil => simp
 | cons x l ih =>
  have h1 := encI_len (h 0 x rfl)
  have h2 := ih (fun k y hy => h (k + 1) y (by simpa using hy))
  rw [List.flatMap_cons, List.length_append, List.length_cons]
  omega
theorem flat_snoc {l : List ItM} {k : Nat} {x : ItM} (h : l[k]? = some x) : (l.take (k + 1)).flatMap encI = (l.take k).flatMap encI ++ encI x := by
 obtain ⟨hk, e⟩ := List.getElem?_eq_some_iff.1 h
 rw [List.take_succ_eq_append_getElem hk, List.flatMap_append, e]
 simp
theorem mode_byte {m : Int} (h1 : 1 ≤ m) (h2 : m ≤ 4) : IntKind.u8.wrap m = bi (UInt8.ofNat m.toNat) := by
 unfold bi
 rw [IntKind.wrap_u8, UInt8.toNat_ofNat']
 omega
theorem len_byte (n : Nat) (_h : n ≤ 255) : IntKind.u8.wrap (n : Int) = bi (UInt8.ofNat n) := by
 unfold bi
 rw [IntKind.wrap_u8, UInt8.toNat_ofNat']
 omega
set_option maxRecDepth 100000 in
set_option maxHeartbeats 1600000 in
theorem putItems_any (v it : Value) (bs : List UInt8) (ls : List ItM) (B : Nat) (w0 w : World) (h : Own w B v bs) (hI : SlI w0 it ls) (h0 : Below w0.heap.size w0 w) (hB0 : w0.heap.size ≤ B) (hB : B ≤ w.heap.size) (hls : itemsB ls = true) (hl : bs.length ≤ 1000) :
  Calls Tryz.prog 148 #[v, it] w (AppPost w B bs (encIs ls)) := by
 obtain ⟨A, c, rfl, hlc, hcm, _, hR⟩ := hI
 obtain ⟨hn, hit⟩ := itemsB_of hls
 have HO := Lib.hid h
 have H0 := Lib.hid h0
 have HR := Lib.hid hR
 have HIT := Lib.hid hit
 have HBZ := Lib.hid hB
 unfold maxLen at hcm
 obtain ⟨l, hL⟩ : ∃ l, ls.length = l := ⟨_, rfl⟩
 rw [hL] at hlc hn ⊢
 have HL := Lib.hid hL
 have hl9 := putL_len9 (show l ≤ 72057594037927936 from by omega)
 have HL9 := Lib.hid hl9
 clear hL h h0 hR hit hls hl9
 go_enter Tryz.func148, Tryz.ntmps148
 go_wp2_with fail
 refine (putNumber_any v bs l B w HO.out (by omega) (by omega) hB).mono ?_
 rintro e w1 ⟨v1, rfl, ho1, hk1⟩
 have HO1 := Lib.hid ho1
 have HK1 := Lib.hid hk1
 clear ho1 hk1
 go_wp2_with fail
 go_loopw [0, 13] (fun b i wr => ∃ k : Nat, k ≤ l ∧ i = .int .i64 k ∧ Own wr B b (bs ++ putL l ++ (ls.take k).flatMap encI) ∧ Kp B w wr) (fun _ i _ => l - (intOf i).toNat)
 case atStart => exact ⟨0, Nat.zero_le _, rfl, by simpa using HO1.out, HK1.out⟩
 case round =>
  obtain ⟨k, hk, rfl, hou, hku⟩ := hrel
  have HOU := Lib.hid hou
  have HKU := Lib.hid hku
  clear hou hku
  have k0 : (0 : Int) ≤ (k : Int) := by omega
  by_cases hlt : k < l
  ·have k1 : (k : Int) < (l : Int) := by omega
   have hkl : k < ls.length := by rw [HL.out]; exact hlt
   obtain ⟨x, hx⟩ : ∃ x, ls[k]? = some x := ⟨_, List.getElem?_eq_getElem hkl⟩
   obtain ⟨ad, rfl, c0, c1, c2⟩ := items_at (HR.out.below (H0.out.trans (HKU.out.below.mono hB0))) rfl k x hx
   obtain ⟨m1, m4, hnm, hid⟩ := itB_of (HIT.out k x hx)
   have hnl := nameB_len hnm
   have HSN := Lib.hid (flat_snoc hx)
   have hlen : ((ls.take k).flatMap encI).length ≤ k * 106 := by
    have := encIs_len (l := ls.take k) (fun j y hy => HIT.out j y (by
     rw [List.getElem?_take] at hy
     split at hy
     ·exact hy
     ·cases hy))
    rw [List.length_take] at this
    omega
   have hle : (bs ++ putL l ++ (ls.take k).flatMap encI).length ≤ 40000 := by
    have := HL9.out
    simp only [List.length_append]
    omega
   obtain ⟨pre, hpre⟩ : ∃ pre, bs ++ putL l ++ (ls.take k).flatMap encI = pre := ⟨_, rfl⟩
   have HPRE := Lib.hid hpre
   rw [hpre] at HOU hle
   obtain ⟨m, nm, id⟩ := x
   replace c0 : wr.cell? (ad.add (k * 3)) = some (.int .i64 m) := c0
   replace c1 : wr.cell? ⟨(ad.add (k * 3)).block, (ad.add (k * 3)).off + 1, none⟩ = some (.string (str nm)) := c1
   replace c2 : wr.cell? ⟨(ad.add (k * 3)).block, (ad.add (k * 3)).off + 2, none⟩ = some (.string (str id)) := c2
   replace m1 : 1 ≤ m := m1
   replace m4 : m ≤ 4 := m4
   replace hid : validB id = true := hid
   have hmb := mode_byte m1 m4
   have HID := Lib.hid hid
   have HNL := Lib.hid hnl.2
   have hbz : B ≤ wr.heap.size := Nat.le_trans hB HKU.out.size
   have hz1 : (wr.alloc (.cells #[.int .i64 m, .string (str nm), .string (str id)] 237)).heap.size = wr.heap.size + 1 := by simp
   have hbz2 : B ≤ (wr.alloc (.cells #[.int .i64 m, .string (str nm), .string (str id)] 237)).heap.size := by simp; omega
   have HOA : Hid (Own (wr.alloc (.cells #[.int .i64 m, .string (str nm), .string (str id)] 237)) B u0 pre) := HOU.out.alloc _
   have HKA : Hid (Blk (wr.alloc (.cells #[.int .i64 m, .string (str nm), .string (str id)] 237)) wr.heap.size 237 #[.int .i64 m, .string (str nm), .string (str id)]) := Blk.new _ _ _
   have HKK : Hid (Kp B w (wr.alloc (.cells #[.int .i64 m, .string (str nm), .string (str id)] 237))) := HKU.out.alloc hbz _
   have hsm : pre.length + 1 ≤ 140737488355328 := by omega
   have HLE := Lib.hid hle
   clear hx hkl hnm hid hnl hpre hlen hle m1 m4
   go_wp2_with (at_builtin; refine app_byte rfl (.tmp 17) (.tmp 21) rfl _ B u0 pre rfl HOA.out _ (UInt8.ofNat m.toNat) rfl (wr.heap.size + 1) hz1 rfl hsm hbz2 ?_; intro v3 w3 ho3 hb3; have HO3 := Lib.hid ho3; have HB3 := Lib.hid hb3; have HK3 := Lib.hid (hb3.blk _ _ _ HKA.out (by decide)); have c3 := HK3.out.cell 1; have c4 := HK3.out.cell 2; clear ho3 hb3)
   have hz3 : B ≤ w3.heap.size := Nat.le_trans hbz2 HB3.out.size
   have hl3 : (pre ++ [UInt8.ofNat m.toNat]).length ≤ 90000000 := by have := HLE.out; rw [List.length_append, List.length_singleton]; omega
   refine (putText_any v3 _ nm B w3 HO3.out (by have := HNL.out; omega) hl3 hz3).mono ?_
   rintro e w4 ⟨v4, rfl, ho4, hk4⟩
   have HO4 := Lib.hid ho4
   have HK4 := Lib.hid (hk4.blk _ _ _ HK3.out (by decide))
   have HB4 := Lib.hid hk4
   clear ho4 hk4 c3 c4
   have c4 := HK4.out.cell 2
   go_wp2_with fail
   have hz4 : B ≤ w4.heap.size := Nat.le_trans hz3 HB4.out.size
   have hl4 : (pre ++ [UInt8.ofNat m.toNat] ++ (putL nm.length ++ nm)).length ≤ 90000000 := by
    have h1 := HLE.out
    have h2 := HNL.out
    have h3 := putL_len9 (show nm.length ≤ 72057594037927936 from by omega)
    simp only [List.length_append, List.length_singleton]
    omega
   refine (putHash_any v4 _ id B w4 HO4.out HID.out hl4 hz4).mono ?_
   rintro e w5 ⟨v5, rfl, ho5, hk5⟩
   have HO5 := Lib.hid ho5
   have HB5 := Lib.hid hk5
   clear ho5 hk5 c4
   go_wp2_with fail
   go_roundw
   case rel =>
    refine ⟨k + 1, by omega, by go_num, ?_, HKK.out.trans (HB3.out.trans (HB4.out.trans HB5.out))⟩
    rw [HSN.out]
    have := HO5.out
    rw [← HPRE.out] at this
    rw [show encI (m, nm, id) = [UInt8.ofNat m.toNat] ++ (putL nm.length ++ nm) ++ unhexL id from rfl]
    simpa only [List.append_assoc] using this
   case measure => simp [intOf]; omega
  ·obtain rfl : k = l := by omega
   go_wp2_with fail
   go_ret
   refine ⟨u0, rfl, ?_, HKU.out⟩
   unfold encIs
   have := HOU.out
   rw [List.take_of_length_le (by rw [HL.out]; exact Nat.le_refl _)] at this
   rw [HL.out, ← List.append_assoc]
   exact this
end Go.Proofs.YtbenkmihkbjgeaaGreat.Ob
