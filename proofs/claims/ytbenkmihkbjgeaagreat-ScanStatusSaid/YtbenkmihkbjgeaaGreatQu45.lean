/- Texts put together: USc16, USc17, USc18. -/
import Derived.Test.YtbenkmihkbjgeaaGreatQu41
import Derived.Test.YtbenkmihkbjgeaaGreatQu44
/- Package scan: entries. -/
set_option linter.unusedVariables false
set_option linter.unusedSimpArgs false
namespace Go.Proofs.YtbenkmihkbjgeaaGreat.Tx
open Go.RowKit Go.Maps Go.Proofs.YtbenkmihkbjgeaaGreat.Sh S7
def fndR (l : List RwM) (p : List UInt8) : Option RwM := l.find? fun r => r.path == p
theorem fndR_app (l : List RwM) (r : RwM) (p : List UInt8) : fndR (l ++ [r]) p = (fndR l p).or (if r.path = p then some r else none) := by
 unfold fndR
 rw [List.find?_append]
 congr 1
 by_cases h : r.path = p
 ·rw [if_pos h, List.find?_cons_of_pos (by simpa using h)]
 ·rw [if_neg h, List.find?_cons_of_neg (by simpa using h)]
  rfl
def zeroE : Value := .agg #[.int .i64 0, .string ⟨#[]⟩]
theorem zeroEnt (w : World) : (zeroValue 70).run Tryz.prog w = .ok zeroE w := by kernel_rfl
structure EnOK (l : List RwM) (D : DataW Value) : Prop where
 has_ : ∀ p, Maps.has D (.string p) = (fndR l p).isSome
 at_ : ∀ p r, fndR l p = some r → ∀ z, D.atKey (.string p) z = .held (.agg #[.int .i64 r.mode, .string (Tx.str r.id)])
theorem EnOK.empty : EnOK [] (.map []) := ⟨fun p => rfl, fun p k h => by cases h⟩
theorem EnOK.skip {l : List RwM} {D : DataW Value} {r x : RwM} (h : EnOK l D) (hx : fndR l r.path = some x) : EnOK (l ++ [r]) D := by
 have e : ∀ p, fndR (l ++ [r]) p = fndR l p := fun p => by
  rw [fndR_app]
  by_cases e : r.path = p
  ·rw [← e, hx]; rfl
  ·rw [if_neg e, Option.or_none]
 exact ⟨fun p => by rw [e, h.has_], fun p k hk => h.at_ p k (by rw [← e]; exact hk)⟩
theorem EnOK.put {l : List RwM} {D : DataW Value} {r : RwM} (h : EnOK l D) (hm : Maps.IsMap D) (hx : fndR l r.path = none) : EnOK (l ++ [r]) (D.put (.string r.path) (.held (.agg #[.int .i64 r.mode, .string (Tx.str r.id)]))) := by
 refine ⟨fun p => ?_, fun p x hp z => ?_⟩
 ·rw [fndR_app]
  by_cases e : r.path = p
  ·subst e
   rw [Maps.has_put_same hm (isK _), if_pos rfl, hx]
   rfl
  ·rw [Maps.has_put_other (fun x => e (by injection x with x; exact x.symm)), if_neg e, h.has_, Option.or_none]
 ·rw [fndR_app] at hp
  by_cases e : r.path = p
  ·subst e
   rw [if_pos rfl, hx] at hp
   injection hp with hp
   subst hp
   exact Maps.atKey_put_same hm (isK _) _ _
  ·rw [if_neg e, Option.or_none] at hp
   rw [Maps.atKey_put_other (fun x => e (by injection x with x; exact x.symm))]
   exact h.at_ p x hp z
theorem EnOK.look {l : List RwM} {D : DataW Value} (h : EnOK l D) (p : List UInt8) : ∀ v ps, hv v = some (D.atKey (.string p) (.held zeroE), ps) → v = entV (getM l p) := by
 intro v ps hv'
 have e : getM l p = match fndR l p with | some r => (r.mode, r.id) | none => (0, []) := rfl
 rw [e]
 cases hp : fndR l p with
 | none =>
  rw [Maps.atKey_of_not_has (by rw [h.has_, hp]; rfl)] at hv'
  unfold hv at hv'
  injection hv' with hv'
  injection hv' with h3 _
  injection h3
 | some k =>
  rw [h.at_ p k hp] at hv'
  unfold hv at hv'
  injection hv' with hv'
  injection hv' with h3 _
  injection h3
def EnMap (w w1 : World) (b : Nat) (l : List RwM) : Prop := w.heap.size ≤ b ∧ ∃ D q, w1.ownsMap Tryz.prog 9 hv b q D ∧ EnOK l D ∧ q ≤ l.length
def EntP (l : List RwM) (w : World) (e : Ending) (w' : World) : Prop := ∃ b, e = .returned (.map (some b)) ∧ EnMap w w' b l ∧ Below w.heap.size w w'
set_option maxRecDepth 100000 in
set_option maxHeartbeats 3200000 in
theorem sentries_any (v : Value) (l : List RwM) (w : World) (h : SlR w v l) (hlen : l.length ≤ 1000) (hfew : ∀ r ∈ l, RwFew r) : Calls Tryz.prog 96 #[v] w (EntP l w) := by
 have H := Lib.hid h
 have HF := Lib.hid hfew
 obtain ⟨A, c, rfl, hlc, hcm, _, _⟩ := h
 obtain ⟨n, hn⟩ : ∃ n, l.length = n := ⟨_, rfl⟩
 have HN := Lib.hid hn
 rw [hn] at hlc hlen H ⊢
 unfold maxLen at hcm
 clear hn hfew
 have hmm := @run_makeMap Tryz.prog
 go_enter Tryz.func96, Tryz.ntmps96
 go_upto_region 2 with (fail)
 obtain ⟨w1, hw1⟩ : ∃ W, W = w.alloc (.map #[] 0) := ⟨_, rfl⟩
 obtain ⟨bm, hbm⟩ : ∃ k, k = w.heap.size := ⟨_, rfl⟩
 rw [← hw1]
 try rw [← hbm]
 have HB1 : Hid (Below w.heap.size w w1) := by unfold Hid; rw [hw1]; exact (Below.refl _ _).alloc (Nat.le_refl _) _
 have HM1 : Hid (EnMap w w1 bm []) := by
  refine ⟨Nat.le_of_eq hbm.symm, .map [], 0, ?_, EnOK.empty, Nat.le_refl _⟩
  rw [hw1, hbm]
  exact World.ownsMap_made w Tryz.prog 9 Tx.hv
 clear hw1 hbm hmm
 go_wp2_with fail
 go_loopw [11] (fun x wr => ∃ i : Nat, i ≤ n ∧ x = .int .i64 (i : Int) ∧ EnMap w wr bm (l.take i) ∧ Below w.heap.size w wr) (fun x _ => n - (intOf x).toNat)
 case atStart => exact ⟨0, Nat.zero_le _, rfl, HM1.out, HB1.out⟩
 case round =>
  obtain ⟨i, hi, rfl, hem, hb⟩ := hrel
  have HB := Lib.hid hb
  obtain ⟨hbw, D, q, hown, hok, hq⟩ := hem
  have HOWN := Lib.hid hown
  have HOK := Lib.hid hok
  have HQ : Hid (q ≤ i) := by unfold Hid; rw [List.length_take] at hq; omega
  have HBW := Lib.hid hbw
  clear hb hown hok hq hbw
  have z0 : (0 : Int) ≤ (i : Int) := by omega
  by_cases hlt : i < n
  ·have z1 : (i : Int) < (n : Int) := by omega
   have hil : i < l.length := by have := HN.out; omega
   obtain ⟨r, hr⟩ : ∃ r, l[i] = r := ⟨_, rfl⟩
   have HGR : Hid (l[i]? = some r) := by unfold Hid; rw [List.getElem?_eq_getElem hil, hr]
   have HTK : Hid (l.take (i + 1) = l.take i ++ [r]) := by unfold Hid; rw [List.take_add_one, HGR.out]; rfl
   have hw := H.out.below HB.out
   obtain ⟨A', c', he, _, _, _, hrd⟩ := hw
   injection he with he1 he2 he3
   subst he1
   clear he2 he3
   obtain ⟨ad, rfl, x0, x1, x2⟩ := rows_at hrd rfl i r HGR.out
   have HRF := Lib.hid (HF.out r (List.mem_of_getElem? HGR.out))
   clear hil hr hrd
   go_upto_region 5 with (fail)
   obtain ⟨wx, hwx⟩ : ∃ W, W = wr.alloc (.cells #[.string (Tx.str r.path), .int .i64 r.mode, .string (Tx.str r.id)] 120) := ⟨_, rfl⟩
   obtain ⟨g, hg⟩ : ∃ k, k = wr.heap.size := ⟨_, rfl⟩
   rw [← hwx]
   try rw [← hg]
   have HK : Hid (Blk wx g 120 #[.string (Tx.str r.path), .int .i64 r.mode, .string (Tx.str r.id)]) := by unfold Hid; rw [hwx, hg]; exact heap_alloc_new wr _
   have HBR : Hid (Below wr.heap.size wr wx) := by unfold Hid; rw [hwx]; exact (Below.refl _ _).alloc (Nat.le_refl _) _
   have HBX : Hid (Below w.heap.size w wx) := HB.out.trans (HBR.out.mono HB.out.size)
   have HOX : Hid (wx.ownsMap Tryz.prog 9 hv bm q D) := own_only HOWN.out (Only.of_below (M := fun _ => False) HBR.out) id
   have HKEY := Lib.hid (key_str r.path (by have := HRF.out.1; omega))
   have k0 := HK.out.cell 0
   clear hwx hg x0 x1 x2 HOWN
   cases hf : fndR (l.take i) r.path with
   | some x =>
    have hh : Maps.has D (.string r.path) = true := by rw [HOK.out.has_, hf]; rfl
    have HN2 : Hid (EnOK (l.take (i + 1)) D) := by unfold Hid; rw [HTK.out]; exact HOK.out.skip hf
    have HLOOK := Lib.hid (HOK.out.look r.path)
    obtain ⟨ev, hev⟩ : ∃ ev, getM (l.take i) r.path = ev := ⟨_, rfl⟩
    rw [hev] at HLOOK
    obtain ⟨em, ei⟩ := ev
    clear hf hev
    go_wp2_with (at_lookup; refine wpList_lookup_own_ok _ rfl _ _ 153 rfl 9 70 lawS Tryz.underlying153 hv (zeroEnt _) (.held zeroE) [] rfl bm _ D rfl (by exact HOX.out) _ (.string r.path) rfl (by exact HKEY.out) ?_; intro v ps hv'; obtain rfl : v = .agg #[.int .i64 em, .string (Tx.str ei)] := HLOOK.out v ps hv'; rw [hh]; clear hv')
    go_roundw
    case rel => exact ⟨i + 1, by omega, by go_num, ⟨HBW.out, D, q, own_only HOX.out (Only.of_below (M := fun _ => False) ((Below.refl _ _).alloc (Nat.le_refl _) _)) id, HN2.out, by rw [List.length_take, HN.out]; have := HQ.out; omega⟩, HBX.out.alloc HBX.out.size _⟩
    case measure => simp [intOf]; omega
   | none =>
    have hh : Maps.has D (.string r.path) = false := by rw [HOK.out.has_, hf]; rfl
    have HN2 : Hid (EnOK (l.take (i + 1)) (D.put (.string r.path) (.held (.agg #[.int .i64 r.mode, .string (Tx.str r.id)])))) := by unfold Hid; rw [HTK.out]; exact HOK.out.put (own_map HOX.out) hf
    have HLOOK := Lib.hid (HOK.out.look r.path)
    obtain ⟨ev, hev⟩ : ∃ ev, getM (l.take i) r.path = ev := ⟨_, rfl⟩
    rw [hev] at HLOOK
    obtain ⟨em, ei⟩ := ev
    have HSZ : Hid (q < maxLen) := by have := HQ.out; unfold Hid maxLen; omega
    have HK2 : Hid (∀ o, Blk (wx.alloc o) g 120 #[.string (Tx.str r.path), .int .i64 r.mode, .string (Tx.str r.id)]) := fun o => HK.out.alloc o
    have HO2 : Hid (∀ o, (wx.alloc o).ownsMap Tryz.prog 9 hv bm q D) := fun o => own_only HOX.out (Only.of_below (M := fun _ => False) ((Below.refl _ _).alloc (Nat.le_refl _) _)) id
    have j0 := fun o => (HK2.out o).cell 0
    have j1 := fun o => (HK2.out o).cell 1
    have j2 := fun o => (HK2.out o).cell 2
    clear hf hev
    go_wp2_with (first
     | (at_lookup; refine wpList_lookup_own_ok _ rfl _ _ 153 rfl 9 70 lawS Tryz.underlying153 hv (zeroEnt _) (.held zeroE) [] rfl bm _ D rfl (by exact HOX.out) _ (.string r.path) rfl (by exact HKEY.out) ?_; intro v ps hv'; obtain rfl : v = .agg #[.int .i64 em, .string (Tx.str ei)] := HLOOK.out v ps hv'; rw [hh]; clear hv')
     | (at_mapUpdate; refine wpList_mapUpdate_own _ rfl _ _ _ 153 rfl 9 70 lawS Tryz.underlying153 hv bm _ D rfl (by exact HO2.out _) (by exact HSZ.out) _ _ (.string r.path) rfl rfl (by exact HKEY.out) (.held (.agg #[.int .i64 r.mode, .string (Tx.str r.id)])) [] rfl ?_; intro w9 hown9 hgr9; have HOWN9 := Lib.hid hown9; have HGR9 := Lib.hid hgr9; clear hown9 hgr9))
    have HB9 := Lib.hid ((HBX.out.alloc HBX.out.size (.cells #[.int .i64 em, .string (Tx.str ei)] 70)).grown HGR9.out (Nat.le_trans HBX.out.size (by simp)) (fun k hk => by injection hk with hk; subst hk; exact HBW.out))
    go_roundw
    case rel => exact ⟨i + 1, by omega, by go_num, ⟨HBW.out, _, _, HOWN9.out, HN2.out, by rw [List.length_take, HN.out]; have := HQ.out; omega⟩, HB9.out⟩
    case measure => simp [intOf]; omega
  ·obtain rfl : i = n := by omega
   have HL : Hid (l.take i = l) := List.take_of_length_le (Nat.le_of_eq HN.out)
   go_wp2_with fail
   go_ret
   exact ⟨bm, rfl, ⟨HBW.out, D, q, HOWN.out, by have h := HOK.out; rw [HL.out] at h; exact h, by rw [HN.out]; exact HQ.out⟩, HB.out⟩
end Go.Proofs.YtbenkmihkbjgeaaGreat.Tx
/- Package scan: Status. -/
set_option linter.unusedVariables false
set_option linter.unusedSimpArgs false
namespace Go.Proofs.YtbenkmihkbjgeaaGreat.Tx
open Go.RowKit Go.Maps Go.Proofs.YtbenkmihkbjgeaaGreat.Sh S7
structure CgM where
 path : List UInt8
 old : Int × List UInt8
 new : Int × List UInt8
def cgC (c : CgM) : List Value := [.string (Tx.str c.path), .int .i64 c.old.1, .string (Tx.str c.old.2), .int .i64 c.new.1, .string (Tx.str c.new.2)]
def cgM (a b : List RwM) (x : ByteArray) : CgM := ⟨x.toList, getM a x.toList, getM b x.toList⟩
def stsM (a b : List RwM) (l : List ByteArray) : List CgM := (l.map (cgM a b)).filter fun c => !sameM c.old c.new
theorem stsM_next {a b : List RwM} {l : List ByteArray} {i : Nat} {x : ByteArray} (h : l[i]? = some x) : stsM a b (l.take (i + 1)) = stsM a b (l.take i) ++ if sameM (getM a x.toList) (getM b x.toList) = true then [] else [cgM a b x] := by
 unfold stsM
 rw [List.take_add_one, h, List.map_append, List.filter_append]
 congr 1
 show List.filter _ [cgM a b x] = _
 rw [List.filter_cons]
 show (if (!sameM (getM a x.toList) (getM b x.toList)) = true then [cgM a b x] else []) = _
 cases sameM (getM a x.toList) (getM b x.toList) <;> rfl
theorem stsM_len (a b : List RwM) (l : List ByteArray) : (stsM a b l).length ≤ l.length := by
 unfold stsM
 refine Nat.le_trans (List.length_filter_le _ _) ?_
 rw [List.length_map]
 exact Nat.le_refl _
theorem cgC_one (l : List CgM) : ∀ u ∈ l.flatMap cgC, u.oneCell' = true := by
 intro u hu
 rw [List.mem_flatMap] at hu
 obtain ⟨x, _, hx⟩ := hu
 simp [cgC] at hx
 rcases hx with rfl | rfl | rfl | rfl | rfl <;> rfl
theorem cgC_at (l : List CgM) : ∀ (k : Nat) (x : CgM), l[k]? = some x → ∀ (j : Nat) (u : Value), (cgC x)[j]? = some u → (l.flatMap cgC)[k * 5 + j]? = some u := by
 induction l with
 | nil => intro k x h; simp at h
 | cons y l ih =>
  intro k x h j u hu
  have hj : j < 5 := (List.getElem?_eq_some_iff.1 hu).1
  cases k with
  | zero =>
   simp at h
   subst h
   rw [List.flatMap_cons, List.getElem?_append_left (by simp [cgC]; omega), Nat.zero_mul, Nat.zero_add]
   exact hu
  | succ k =>
   have h0 := ih k x (by simpa using h) j u hu
   rw [List.flatMap_cons, List.getElem?_append_right (by simp [cgC]; omega), ← h0]
   congr 1
   simp [cgC]
   omega
def OwnCg (T : TypeId) (w : World) (B : Nat) (v : Value) (l : List CgM) : Prop := w.ownsRow B T 5 v l.length (l.flatMap cgC)
theorem OwnCg.nil_ (T : TypeId) (w : World) (B : Nat) : OwnCg T w B (.slice none 0 0) [] := World.ownsRow_nil w B T 5
theorem info_chg : (Tryz.prog.info? 72).map (fun i => (i.zero, i.size, i.bytes)) = some (some (.agg #[.string ⟨#[]⟩, .int .i64 0, .string ⟨#[]⟩, .int .i64 0, .string ⟨#[]⟩]), 5, 64) := by kernel_rfl
theorem info_rchg : (Tryz.prog.info? 73).map (fun i => (i.zero, i.size, i.bytes)) = some (some (.agg #[.string ⟨#[]⟩, .int .i64 0, .string ⟨#[]⟩, .int .i64 0, .string ⟨#[]⟩]), 5, 64) := by kernel_rfl
theorem append_chg {T TS : TypeId} (hT : Tryz.prog.underlying TS = some (.slice T)) (hin : (Tryz.prog.info? T).map (fun i => (i.zero, i.size, i.bytes)) = some (some (.agg #[.string ⟨#[]⟩, .int .i64 0, .string ⟨#[]⟩, .int .i64 0, .string ⟨#[]⟩]), 5, 64))
  {ops : Array Oper} {rest : List Oper} {o : Oper} {a : Act} {Q : Exit → Act → World → Prop} (hgd : o.guard = none) (s x : Operand)
  (ho : o.op = .call { callee := .builtin .append, args := #[s, x], argTypes := #[TS, TS] }) (w : World) (B : Nat) (v : Value) (l : List CgM) (hs : a.eval s = v) (hown : OwnCg T w B v l)
  (u : CgM) (hx : a.eval x = .slice (some ⟨w.heap.size, 0, none⟩) 1 1) (hsmall : l.length + 1 ≤ 2000000) (hB : B ≤ w.heap.size)
  (h : ∀ v' w', OwnCg T w' B v' (l ++ [u]) → Below B w w' → wpList Tryz.prog ops Q rest (a.put o.dst v') w') : wpList Tryz.prog ops Q (o :: rest) a (w.alloc (.cells #[.string (Tx.str u.path), .int .i64 u.old.1, .string (Tx.str u.old.2), .int .i64 u.new.1, .string (Tx.str u.new.2)] T)) := by
 obtain ⟨i0, hi, hz0, hz1, hz2⟩ := info_parts hin
 obtain ⟨w2, hw2⟩ : ∃ W, W = w.alloc (.cells #[.string (Tx.str u.path), .int .i64 u.old.1, .string (Tx.str u.old.2), .int .i64 u.new.1, .string (Tx.str u.new.2)] T) := ⟨_, rfl⟩
 have hg : Blk w2 w.heap.size T #[.string (Tx.str u.path), .int .i64 u.old.1, .string (Tx.str u.old.2), .int .i64 u.new.1, .string (Tx.str u.new.2)] := by rw [hw2]; exact heap_alloc_new w _
 have hsz : w2.heap.size = w.heap.size + 1 := by rw [hw2]; simp
 have hown2 : OwnCg T w2 B v l := by rw [hw2]; exact World.ownsRow.alloc hown _
 have hb2 : Below B w w2 := by rw [hw2]; exact (Below.refl _ _).alloc hB _
 rw [← hw2]
 clear hw2
 have hr : Reads w2 w2.heap.size 5 (some ⟨w.heap.size, 0, none⟩) 1 ([u].flatMap cgC) := by
  refine ⟨rfl, fun _ => ⟨_, rfl, hg.lt, fun j v hv => ?_⟩⟩
  rw [Addr.add_mid, Nat.zero_add]
  have hj : j < 5 := by have := (List.getElem?_eq_some_iff.1 hv).1; simpa [cgC] using this
  have h1 := hg.cell j
  rw [← hv]
  rw [h1]
  match j, hj with
  | 0, _ => rfl
  | 1, _ => rfl
  | 2, _ => rfl
  | 3, _ => rfl
  | 4, _ => rfl
 refine wpList_append_any w2 hgd s x TS ho B T i0 (.agg #[.string ⟨#[]⟩, .int .i64 0, .string ⟨#[]⟩, .int .i64 0, .string ⟨#[]⟩]) 5 64 hT hi hz0 hz1 hz2 rfl (by decide) v l.length _ hs hown2 w2.heap.size (some ⟨w.heap.size, 0, none⟩) 1 1 _ hx hr (cgC_one [u]) (by unfold maxLen; omega) (by omega) (by omega) ?_
 intro v' w' h1 h2 h3
 refine h v' w' ?_ (hb2.trans ((Below.refl _ _).grown h2 (by omega) (fun k hk => (World.ownsRow.lt hown2 k hk).1)))
 unfold OwnCg
 rw [List.length_append, List.flatMap_append]
 exact h1
theorem OwnCg.base {T : TypeId} {w : World} {B B' : Nat} {v : Value} {l : List CgM} (h : OwnCg T w B v l) (hB : B' ≤ B) : OwnCg T w B' v l := by
 refine ⟨h.1, ?_⟩
 rcases h.2 with h0 | ⟨g, cap, cur, hv, hb, rest⟩
 ·exact .inl h0
 ·exact .inr ⟨g, cap, cur, hv, by omega, rest⟩
theorem OwnCg.below {T : TypeId} {w w' : World} {B : Nat} {v : Value} {l : List CgM} (h : OwnCg T w B v l) (hb : Below w.heap.size w w') : OwnCg T w' B v l :=
 World.ownsRow.kept h (only_of_below hb none) (by cases hv : v.ownBlock <;> simp)
theorem uniq_few {a b : List RwM} (ha : ∀ r ∈ a, RwFew r) (hb : ∀ r ∈ b, RwFew r) : ∀ x ∈ uniqT (pathsT a ++ pathsT b), ∃ p : List UInt8, x = Tx.str p ∧ p.length ≤ 400 := by
 intro x hx
 have h := ((uniqT_spec _).2 x).1 hx
 rcases List.mem_append.1 h with h | h
 ·obtain ⟨r, hr, e⟩ := List.mem_map.1 h
  exact ⟨r.path, e.symm, (ha r hr).1⟩
 ·obtain ⟨r, hr, e⟩ := List.mem_map.1 h
  exact ⟨r.path, e.symm, (hb r hr).1⟩
def StsP (T : TypeId) (a b : List RwM) (w : World) (e : Ending) (w' : World) : Prop := ∃ v, e = .returned v ∧ OwnCg T w' w.heap.size v (stsM a b (uniqT (pathsT a ++ pathsT b))) ∧ Below w.heap.size w w'
set_option maxRecDepth 100000 in
set_option maxHeartbeats 3200000 in
theorem sstat_any (v1 v2 : Value) (a b : List RwM) (w : World) (h1 : SlR w v1 a) (h2 : SlR w v2 b) (ha : a.length ≤ 100) (hb : b.length ≤ 100) (hfa : ∀ r ∈ a, RwFew r) (hfb : ∀ r ∈ b, RwFew r) : Calls Tryz.prog 26 #[v1, v2] w (StsP 72 a b w) := by
 have H1 := Lib.hid h1
 have H2 := Lib.hid h2
 have HFA := Lib.hid hfa
 have HFB := Lib.hid hfb
 have HLA := Lib.hid ha
 have HLB := Lib.hid hb
 obtain ⟨A1, c1, rfl, _⟩ := h1
 obtain ⟨A2, c2, rfl, _⟩ := h2
 obtain ⟨n1, hn1⟩ : ∃ n, a.length = n := ⟨_, rfl⟩
 obtain ⟨n2, hn2⟩ : ∃ n, b.length = n := ⟨_, rfl⟩
 rw [hn1] at H1 ⊢
 rw [hn2] at H2 ⊢
 clear hn1 hn2 ha hb hfa hfb
 go_enter Tryz.func26, Tryz.ntmps26
 go_wp2_with fail
 refine (sentries_any _ a w H1.out (by have := HLA.out; omega) HFA.out).mono ?_
 rintro e w1 ⟨b1, rfl, hm1, hb1⟩
 have HB1 := Lib.hid hb1
 have HM1 := Lib.hid hm1
 clear hb1 hm1
 go_wp2_with fail
 refine (sentries_any _ b w1 (H2.out.below HB1.out) (by have := HLB.out; omega) HFB.out).mono ?_
 rintro e w2 ⟨b2, rfl, hm2, hb2⟩
 have HB2 := Lib.hid hb2
 have HM2 := Lib.hid hm2
 have HB02 := Lib.hid (HB1.out.trans (hb2.mono HB1.out.size))
 clear hb2 hm2
 go_wp2_with fail
 refine (spaths_any _ a w2 (H1.out.below HB02.out) (by have := HLA.out; omega)).mono ?_
 rintro e w3 ⟨p1, rfl, ho1, hb3⟩
 have HB3 := Lib.hid hb3
 have HO1 := Lib.hid ho1.slv
 have HB03 := Lib.hid (HB02.out.trans (hb3.mono HB02.out.size))
 clear ho1 hb3
 go_wp2_with fail
 refine (spaths_any _ b w3 (H2.out.below HB03.out) (by have := HLB.out; omega)).mono ?_
 rintro e w4 ⟨p2, rfl, ho2, hb4⟩
 have HB4 := Lib.hid hb4
 have HO2 := Lib.hid ho2.slv
 have HO14 := Lib.hid (HO1.out.below hb4)
 have HB04 := Lib.hid (HB03.out.trans (hb4.mono HB03.out.size))
 clear ho2 hb4
 go_wp2_with fail
 refine (merge_any p1 p2 _ _ w4 HO14.out HO2.out (by unfold pathsT; rw [List.length_map]; have := HLA.out; omega) (by unfold pathsT; rw [List.length_map]; have := HLB.out; omega)).mono ?_
 rintro e w5 ⟨vl, rfl, ho5, hb5⟩
 have HUF := Lib.hid (uniq_few HFA.out HFB.out)
 obtain ⟨L, hL⟩ : ∃ L, uniqT (pathsT a ++ pathsT b) = L := ⟨_, rfl⟩
 have HEL := Lib.hid hL
 rw [hL] at HUF ho5
 have HB05 := Lib.hid (HB04.out.trans (hb5.mono HB04.out.size))
 have HB15 : Hid (Below w1.heap.size w1 w5) := by
  have g2 := HB2.out
  have g3 := g2.trans (HB3.out.mono g2.size)
  have g4 := g3.trans (HB4.out.mono g3.size)
  exact g4.trans (hb5.mono g4.size)
 have HB25 : Hid (Below w2.heap.size w2 w5) := by
  have g3 := HB3.out
  have g4 := g3.trans (HB4.out.mono g3.size)
  exact g4.trans (hb5.mono g4.size)
 obtain ⟨_, D1, q1, hown1, hok1, _⟩ := HM1.out
 obtain ⟨_, D2, q2, hown2, hok2, _⟩ := HM2.out
 have HMA : Hid (∀ W, Below w5.heap.size w5 W → W.ownsMap Tryz.prog 9 hv b1 q1 D1) := fun W hW => own_only (own_only hown1 (Only.of_below (M := fun _ => False) HB15.out) id) (Only.of_below (M := fun _ => False) hW) id
 have HMB : Hid (∀ W, Below w5.heap.size w5 W → W.ownsMap Tryz.prog 9 hv b2 q2 D2) := fun W hW => own_only (own_only hown2 (Only.of_below (M := fun _ => False) HB25.out) id) (Only.of_below (M := fun _ => False) hW) id
 have HK1 := Lib.hid hok1
 have HK2 := Lib.hid hok2
 obtain ⟨vA, vc, rfl, hv1, hv2⟩ := ho5.length
 have HOL := Lib.hid ho5.slv
 have HLL : Hid (L.length ≤ 200000) := by
  have h := uniqT_len (pathsT a ++ pathsT b)
  unfold Hid
  rw [hL] at h
  have e : (pathsT a ++ pathsT b).length = a.length + b.length := by unfold pathsT; rw [List.length_append, List.length_map, List.length_map]
  have := HLA.out
  have := HLB.out
  omega
 simp only [List.length_map] at hv1 HOL ⊢
 obtain ⟨M, hM⟩ : ∃ k, L.length = k := ⟨_, rfl⟩
 have HM := Lib.hid hM
 rw [hM] at hv1 HOL HLL ⊢
 unfold maxLen at hv2
 have hmx : M ≤ 200000 := HLL.out
 clear hM ho5 hb5 hown1 hown2 hok1 hok2 hL HB1 HB2 HB3 HB4 HO1 HO2 HO14 HM1 HM2 HB02 HB03 HB04 HB15 HB25
 go_wp2_with fail
 go_loopw [7, 20] (fun v7 x wr => ∃ (i : Nat) (acc : Value), i ≤ M ∧ v7 = acc ∧ x = .int .i64 (i : Int) ∧ OwnCg 72 wr w5.heap.size acc (stsM a b (L.take i)) ∧ Below w5.heap.size w5 wr) (fun _ x _ => M - (intOf x).toNat)
 case atStart => exact ⟨0, _, Nat.zero_le _, rfl, rfl, OwnCg.nil_ _ _ _, Below.refl _ _⟩
 case round =>
  obtain ⟨i, acc, hi, rfl, rfl, hov, hb⟩ := hrel
  have HB := Lib.hid hb
  have HOV := Lib.hid hov
  clear hb hov
  have z0 : (0 : Int) ≤ (i : Int) := by omega
  by_cases hlt : i < M
  ·have z1 : (i : Int) < (M : Int) := by omega
   have hil : i < L.length := by have := HM.out; omega
   have hov := HOL.out.below HB.out
   obtain ⟨A7, c7, he, _, _, hrd⟩ := hov.len
   injection he with he1 he2 he3
   subst he1
   clear he2 he3
   simp only [List.length_map] at hrd
   obtain ⟨ad, rfl, hcell⟩ := texts_at hrd i hil
   obtain ⟨x, hx⟩ : ∃ x, L[i] = x := ⟨_, rfl⟩
   rw [hx] at hcell
   have HGX : Hid (L[i]? = some x) := by unfold Hid; rw [List.getElem?_eq_getElem hil, hx]
   obtain ⟨xl, rfl, hxl⟩ := HUF.out x (List.mem_of_getElem? HGX.out)
   have HNX := Lib.hid (stsM_next (a := a) (b := b) HGX.out)
   rw [Tx.str_toList] at HNX
   have HKEY := Lib.hid (key_str xl (by omega))
   have HL1 := Lib.hid (HK1.out.look xl)
   have HL2 := Lib.hid (HK2.out.look xl)
   have HOA := Lib.hid (HMA.out wr HB.out)
   have HOB := Lib.hid (HMB.out wr HB.out)
   obtain ⟨ea, hea⟩ : ∃ y, getM a xl = y := ⟨_, rfl⟩
   obtain ⟨eb, heb⟩ : ∃ y, getM b xl = y := ⟨_, rfl⟩
   rw [hea] at HL1 HNX
   rw [heb] at HL2 HNX
   obtain ⟨om, oi⟩ := ea
   obtain ⟨nm, ni⟩ := eb
   have HCG : Hid (cgM a b (Tx.str xl) = ⟨xl, (om, oi), (nm, ni)⟩) := by unfold Hid cgM; rw [Tx.str_toList, hea, heb]
   clear hil hx hov hrd hea heb
   have HSM : Hid ((stsM a b (L.take i)).length + 1 ≤ 2000000) := by have h := stsM_len a b (L.take i); rw [List.length_take] at h; unfold Hid; omega
   have HWZ : Hid (w5.heap.size ≤ wr.heap.size) := HB.out.size
   by_cases e1 : om = nm
   ·subst e1
    by_cases e2 : oi = ni
    ·subst e2
     have HST : Hid (sameM (om, oi) (om, oi) = true) := by unfold Hid sameM; simp
     go_wp2_with (first
      | (at_lookup; refine wpList_lookup_own _ rfl _ _ 153 rfl 9 70 lawS Tryz.underlying153 hv (zeroEnt _) (.held zeroE) [] rfl b1 _ D1 rfl (by exact HOA.out) _ (.string xl) rfl (by exact HKEY.out) ?_; intro v ps hv'; obtain rfl : v = .agg #[.int .i64 om, .string (Tx.str oi)] := HL1.out v ps hv'; clear hv')
      | (at_lookup; refine wpList_lookup_own _ rfl _ _ 153 rfl 9 70 lawS Tryz.underlying153 hv (zeroEnt _) (.held zeroE) [] rfl b2 _ D2 rfl (by exact HOB.out) _ (.string xl) rfl (by exact HKEY.out) ?_; intro v ps hv'; obtain rfl : v = .agg #[.int .i64 om, .string (Tx.str oi)] := HL2.out v ps hv'; clear hv'))
     go_roundw
     case rel => exact ⟨i + 1, u7, by omega, rfl, by go_num, by rw [HNX.out, if_pos HST.out, List.append_nil]; exact HOV.out, HB.out⟩
     case measure => simp [intOf]; omega
    ·have HSF : Hid (sameM (om, oi) (om, ni) = false) := by unfold Hid sameM; simp [e2]
     have e3 : ¬ (Tx.str oi).toList = (Tx.str ni).toList := by rw [Tx.str_toList, Tx.str_toList]; exact e2
     clear e2
     go_wp2_with (first
      | (at_lookup; refine wpList_lookup_own _ rfl _ _ 153 rfl 9 70 lawS Tryz.underlying153 hv (zeroEnt _) (.held zeroE) [] rfl b1 _ D1 rfl (by exact HOA.out) _ (.string xl) rfl (by exact HKEY.out) ?_; intro v ps hv'; obtain rfl : v = .agg #[.int .i64 om, .string (Tx.str oi)] := HL1.out v ps hv'; clear hv')
      | (at_lookup; refine wpList_lookup_own _ rfl _ _ 153 rfl 9 70 lawS Tryz.underlying153 hv (zeroEnt _) (.held zeroE) [] rfl b2 _ D2 rfl (by exact HOB.out) _ (.string xl) rfl (by exact HKEY.out) ?_; intro v ps hv'; obtain rfl : v = .agg #[.int .i64 om, .string (Tx.str ni)] := HL2.out v ps hv'; clear hv')
      | (at_builtin; refine append_chg Tryz.underlying65 info_chg rfl (.tmp 31) (.tmp 40) rfl wr w5.heap.size u7 _ rfl HOV.out ⟨xl, (om, oi), (om, ni)⟩ rfl HSM.out HWZ.out ?_; intro v4 w4 ho4 hb4; have HO4 := Lib.hid ho4; have HB4 := Lib.hid (HB.out.trans hb4); clear ho4 hb4))
     go_roundw
     case rel => exact ⟨i + 1, v4, by omega, rfl, by go_num, by rw [HNX.out, HSF.out, if_neg (by decide), HCG.out]; exact HO4.out, HB4.out⟩
     case measure => simp [intOf]; omega
   ·have HSF : Hid (sameM (om, oi) (nm, ni) = false) := by unfold Hid sameM; simp [e1]
    go_wp2_with (first
     | (at_lookup; refine wpList_lookup_own _ rfl _ _ 153 rfl 9 70 lawS Tryz.underlying153 hv (zeroEnt _) (.held zeroE) [] rfl b1 _ D1 rfl (by exact HOA.out) _ (.string xl) rfl (by exact HKEY.out) ?_; intro v ps hv'; obtain rfl : v = .agg #[.int .i64 om, .string (Tx.str oi)] := HL1.out v ps hv'; clear hv')
     | (at_lookup; refine wpList_lookup_own _ rfl _ _ 153 rfl 9 70 lawS Tryz.underlying153 hv (zeroEnt _) (.held zeroE) [] rfl b2 _ D2 rfl (by exact HOB.out) _ (.string xl) rfl (by exact HKEY.out) ?_; intro v ps hv'; obtain rfl : v = .agg #[.int .i64 nm, .string (Tx.str ni)] := HL2.out v ps hv'; clear hv')
     | (at_builtin; refine append_chg Tryz.underlying65 info_chg rfl (.tmp 31) (.tmp 40) rfl wr w5.heap.size u7 _ rfl HOV.out ⟨xl, (om, oi), (nm, ni)⟩ rfl HSM.out HWZ.out ?_; intro v4 w4 ho4 hb4; have HO4 := Lib.hid ho4; have HB4 := Lib.hid (HB.out.trans hb4); clear ho4 hb4))
    go_roundw
    case rel => exact ⟨i + 1, v4, by omega, rfl, by go_num, by rw [HNX.out, HSF.out, if_neg (by decide), HCG.out]; exact HO4.out, HB4.out⟩
    case measure => simp [intOf]; omega
  ·obtain rfl : i = M := by omega
   have HL : Hid (L.take i = L) := List.take_of_length_le (Nat.le_of_eq HM.out)
   go_wp2_with fail
   go_ret
   exact ⟨_, rfl, by have h := HOV.out.base HB05.out.size; rw [HL.out] at h; rw [HEL.out]; exact h, HB05.out.trans (HB.out.mono HB05.out.size)⟩
end Go.Proofs.YtbenkmihkbjgeaaGreat.Tx
/- Package scan's document: Paths. -/
set_option linter.unusedVariables false
set_option linter.unusedSimpArgs false
namespace Go.Proofs.YtbenkmihkbjgeaaGreat.Tx
open Go.RowKit Go.Maps Go.Proofs.YtbenkmihkbjgeaaGreat.Sh S7
def preR (ls : Nat → List RwM) (i : Nat) : List RwM := (List.range i).flatMap ls
theorem preR_next (ls : Nat → List RwM) (i : Nat) : preR ls (i + 1) = preR ls i ++ ls i := by
 unfold preR
 rw [List.range_succ, List.flatMap_append]
 simp
theorem pathsT_app (a b : List RwM) : pathsT (a ++ b) = pathsT a ++ pathsT b := by unfold pathsT; rw [List.map_append]
theorem pathsT_len (a : List RwM) : (pathsT a).length = a.length := by unfold pathsT; rw [List.length_map]
theorem preR_len {ls : Nat → List RwM} (hl : ∀ i, (ls i).length ≤ 1000) : ∀ i, (preR ls i).length ≤ 1000 * i
 | 0 => by simp [preR]
 | i + 1 => by rw [preR_next, List.length_append]; have := preR_len hl i; have := hl i; omega
set_option maxRecDepth 100000 in
set_option maxHeartbeats 3200000 in
theorem bpaths_any (ad : Addr) (ls : Nat → List RwM) (w : World) (hc : ∀ i, i < 2 → ∃ A c, w.cell? (ad.add i) = some (.slice A (ls i).length c) ∧ SlR w (.slice A (ls i).length c) (ls i)) (hl : ∀ i, (ls i).length ≤ 1000) :
  Calls Tryz.prog 99 #[.slice (some ad) 2 2] w (TextsPost w (uniqT (pathsT (preR ls 2)))) := by
 have HC := Lib.hid hc
 have HL := Lib.hid hl
 clear hc hl
 go_enter Tryz.func99, Tryz.ntmps99
 go_wp2_with fail
 go_loopw [3, 4] (fun o x wr => ∃ (i : Nat) (acc : Value), i ≤ 2 ∧ o = acc ∧ x = .int .i64 (i : Int) ∧ OwnV 9 wr w.heap.size acc ((pathsT (preR ls i)).map sv) ∧ Below w.heap.size w wr) (fun _ x _ => 2 - (intOf x).toNat)
 case atStart => exact ⟨0, _, Nat.zero_le _, rfl, rfl, OwnV.nil_ _ _, Below.refl _ _⟩
 case round =>
  obtain ⟨i, acc, hi, rfl, rfl, hov, hb⟩ := hrel
  have HB := Lib.hid hb
  have HOV := Lib.hid hov
  clear hb hov
  have z0 : (0 : Int) ≤ (i : Int) := by omega
  by_cases hlt : i < 2
  ·have z1 : (i : Int) < 2 := by omega
   obtain ⟨A, c, hcell, hs⟩ := HC.out i hlt
   have HCE : Hid (∀ W, Below w.heap.size w W → W.cell? (ad.add i) = some (.slice A (ls i).length c)) := fun W hW => (hW.cell (World.block_lt_of_cell? w _ hcell)).trans hcell
   have HS := Lib.hid hs
   obtain ⟨m, hm⟩ : ∃ m, (ls i).length = m := ⟨_, rfl⟩
   have HM := Lib.hid hm
   have HPL := Lib.hid (preR_len HL.out i)
   have HML : Hid (m ≤ 1000) := by unfold Hid; rw [← hm]; exact HL.out i
   rw [hm] at HS HCE
   have hml : m ≤ 1000 := HML.out
   have hmc : m ≤ c ∧ c ≤ maxLen := by
    obtain ⟨A', c', he, h1, h2, _⟩ := HS.out
    injection he with he1 he2 he3
    exact ⟨by rw [he3]; rw [← HM.out]; exact h1, by rw [he3]; exact h2⟩
   obtain ⟨hmc1, hmc2⟩ := hmc
   unfold maxLen at hmc2
   clear hcell hs hm
   go_wp2_with fail
   go_loopw [3, 5] (fun o x wr2 => ∃ (k : Nat) (acc : Value), k ≤ m ∧ o = acc ∧ x = .int .i64 (k : Int) ∧ OwnV 9 wr2 w.heap.size acc ((pathsT (preR ls i ++ (ls i).take k)).map sv) ∧ Below w.heap.size w wr2) (fun _ x _ => m - (intOf x).toNat)
   case atStart => exact ⟨0, _, Nat.zero_le _, rfl, rfl, by rw [List.take_zero, List.append_nil]; exact HOV.out, HB.out⟩
   case round =>
    obtain ⟨k, acc, hk, rfl, rfl, hov, hb⟩ := hrel
    have HB2 := Lib.hid hb
    have HOV2 := Lib.hid hov
    clear hb hov
    have q0 : (0 : Int) ≤ (k : Int) := by omega
    have c0 := HCE.out wr HB2.out
    by_cases hkm : k < m
    ·have q1 : (k : Int) < (m : Int) := by omega
     have hil : k < (ls i).length := by have := HM.out; omega
     obtain ⟨r, hr⟩ : ∃ r, (ls i)[k] = r := ⟨_, rfl⟩
     have HGR : Hid ((ls i)[k]? = some r) := by unfold Hid; rw [List.getElem?_eq_getElem hil, hr]
     have hw := HS.out.below HB2.out
     obtain ⟨A', c', he, _, _, _, hrd⟩ := hw
     injection he with he1 he2 he3
     subst he1
     clear he2 he3
     obtain ⟨ad2, rfl, x0, x1, x2⟩ := rows_at hrd rfl k r HGR.out
     have hsm : (pathsT (preR ls i ++ (ls i).take k)).length + 1 ≤ 2000000 := by
      rw [pathsT_len, List.length_append, List.length_take]
      have := HPL.out
      omega
     have hwz : w.heap.size ≤ wr.heap.size := HB2.out.size
     have HNX : Hid (pathsT (preR ls i ++ (ls i).take (k + 1)) = pathsT (preR ls i ++ (ls i).take k) ++ [Tx.str r.path]) := by
      unfold Hid
      rw [pathsT_app, pathsT_app, pathsT_next HGR.out, List.append_assoc]
     clear hil hr hrd x1 x2
     go_wp2_with (at_builtin; refine append_text rfl (.tmp 21) (.tmp 30) rfl wr w.heap.size u3 _ rfl HOV2.out (Tx.str r.path) rfl hsm hwz ?_; intro v4 w4 ho4 hb4; have HO4 := Lib.hid ho4; have HB4 := Lib.hid (HB2.out.trans hb4); clear ho4 hb4)
     go_roundw
     case rel => exact ⟨k + 1, v4, by omega, rfl, by go_num, by rw [HNX.out]; exact HO4.out, HB4.out⟩
     case measure => simp [intOf]; omega
    ·obtain rfl : k = m := by omega
     have HT : Hid (preR ls (i + 1) = preR ls i ++ (ls i).take k) := by unfold Hid; rw [preR_next, List.take_of_length_le (Nat.le_of_eq HM.out)]
     go_wp2_with fail
     go_roundw
     case rel => exact ⟨i + 1, u3, by omega, rfl, by go_num, by rw [HT.out]; exact HOV2.out, HB2.out⟩
     case measure => simp [intOf]; omega
  ·obtain rfl : i = 2 := by omega
   go_wp2_with fail
   refine (runiq_any u3 _ wr HOV.out.slv (by rw [pathsT_len]; have := preR_len HL.out 2; omega)).mono ?_
   rintro e w5 ⟨v5, rfl, ho5, hb5⟩
   have HO5 := Lib.hid (ho5.base HB.out.size)
   have HB5 := Lib.hid (HB.out.trans (hb5.mono HB.out.size))
   clear ho5 hb5
   go_wp2_with fail
   go_ret
   exact ⟨v5, rfl, HO5.out, HB5.out⟩
end Go.Proofs.YtbenkmihkbjgeaaGreat.Tx
