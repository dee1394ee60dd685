/- Texts put together: YOb1, YOb0, YRl0, YShR3. -/
import Derived.Test.YteffiedolcjjlaaQa04
import Derived.Test.YteffiedolcjjlaaQa09
import Derived.Test.YteffiedolcjjlaaQa11
import Derived.Test.YteffiedolcjjlaaQa02
import Derived.Test.YteffiedolcjjlaaQa06
import Derived.Deep.CutBlock
import Derived.Deep.DeepCutAuto
import Derived.Test.YteffiedolcjjlaaQa10
import Derived.Test.YteffiedolcjjlaaQa07
/- Package names: Name; wire.Has. -/
namespace Go.Proofs.Yteffiedolcjjlaa.Tx
open Go.RowKit Go.Proofs.Yteffiedolcjjlaa.Sh

theorem list_other_ {a b : List UInt8} (h : a ≠ b) : (a == b) = false := by simpa using h
theorem text_there_ {b : List UInt8} (h : 0 < b.length) : (str b).toList.isEmpty = false ∧ ((str b).toList == []) = false := by
  rw [str_toList]
  cases b with
  | nil => simp at h
  | cons c r => exact ⟨rfl, rfl⟩
set_option maxRecDepth 100000 in
set_option maxHeartbeats 1600000 in
theorem cname_any (cs : List UInt8) (w : World) : Calls Try.prog 140 #[.string (str cs)] w fun e w' => e = .returned (.bool (nameB cs)) ∧ w = w' := by
  have hsz := str_size cs
  have htl := str_toList cs
  obtain ⟨l, hL⟩ : ∃ l, cs.length = l := ⟨_, rfl⟩
  rw [hL] at hsz
  have HL := Lib.hid hL
  have n0 : (0 : Int) ≤ (l : Int) := by omega
  clear hL
  rcases Nat.eq_zero_or_pos l with h1 | h1
  · have HR : Hid (nameB cs = false) := by
      unfold Hid
      rw [nameB_eq, HL.out]
      simp [h1]
    have e0 : (str cs).toList.isEmpty = true := by
      have : cs = [] := List.eq_nil_of_length_eq_zero (by rw [HL.out]; exact h1)
      rw [htl, this]; rfl
    have e0' : ((str cs).toList == []) = true := by
      have : cs = [] := List.eq_nil_of_length_eq_zero (by rw [HL.out]; exact h1)
      rw [htl, this]; rfl
    clear htl h1 n0
    go_enter Try.func140, Try.ntmps140
    go_wp2
    go_ret
    exact ⟨by rw [HR.out]; rfl, rfl⟩
  · obtain ⟨e0, e0'⟩ : (str cs).toList.isEmpty = false ∧ ((str cs).toList == []) = false := text_there_ (by rw [HL.out]; exact h1)
    have z1 : (1 : Int) ≤ (l : Int) := by omega
    by_cases h3 : cs = [46]
    · have HR : Hid (nameB cs = false) := by subst h3; rfl
      have e1 : ((str cs).toList == [46]) = true := by rw [htl, h3]; rfl
      clear htl h3
      go_enter Try.func140, Try.ntmps140
      go_wp2
      go_ret
      exact ⟨by rw [HR.out]; rfl, rfl⟩
    · have e1 : ((str cs).toList == [46]) = false := by rw [htl]; exact list_other_ h3
      by_cases h4 : cs = [46, 46]
      · have HR : Hid (nameB cs = false) := by subst h4; rfl
        have e2 : ((str cs).toList == [46, 46]) = true := by rw [htl, h4]; rfl
        clear htl h3 h4
        go_enter Try.func140, Try.ntmps140
        go_wp2
        go_ret
        exact ⟨by rw [HR.out]; rfl, rfl⟩
      · have e2 : ((str cs).toList == [46, 46]) = false := by rw [htl]; exact list_other_ h4
        have H3 := Lib.hid h3
        have H4 := Lib.hid h4
        clear htl h3 h4
        by_cases h2 : 64 < l
        · have HR : Hid (nameB cs = false) := by
            unfold Hid
            rw [nameB_eq, HL.out]
            simp [show ¬ (l ≤ 64) from by omega]
          have z2 : (64 : Int) < (l : Int) := by omega
          go_enter Try.func140, Try.ntmps140
          go_wp2
          go_ret
          exact ⟨by rw [HR.out]; rfl, rfl⟩
        · have z2 : (l : Int) ≤ 64 := by omega
          go_enter Try.func140, Try.ntmps140
          go_wp2
          clear e0 e0' e1 e2
          go_loop [21] (fun i => ∃ k : Nat, k ≤ l ∧ i = .int .i64 k ∧ ∀ (j : Nat) (c : UInt8), j < k → cs[j]? = some c → okc c = true) (fun i => l - (intOf i).toNat)
          case atStart => exact ⟨0, by omega, rfl, fun j c hj => by omega⟩
          case round =>
            obtain ⟨k, hk, rfl, hok⟩ := hrel
            have HOK := Lib.hid hok
            clear hok
            have k0 : (0 : Int) ≤ (k : Int) := by omega
            by_cases hlt : k < l
            · have k1 : (k : Int) < (l : Int) := by omega
              have hkc : k < cs.length := by rw [HL.out]; exact hlt
              have hix := index_str cs k hkc
              obtain ⟨x, hx⟩ : ∃ x, cs.getD k 0 = x := ⟨_, rfl⟩
              have hx' : cs[k]? = some x := by rw [← hx, List.getD_eq_getElem?_getD, List.getElem?_eq_getElem hkc]; rfl
              rw [hx] at hix
              have HX := Lib.hid hx'
              clear hx hx' hkc
              rcases okc_cases x with ⟨ho, c1⟩ | ⟨ho, c1, c2⟩ | ⟨ho, c1, c2, c3⟩ | ⟨ho, c1, c2, c3⟩
              · have HR : Hid (nameB cs = false) := nameB_bad HX.out ho
                clear ho
                generalize bi x = y at *
                go_wp2
                go_ret
                exact ⟨by rw [HR.out]; rfl, rfl⟩
              · have HR : Hid (nameB cs = false) := nameB_bad HX.out ho
                clear ho
                generalize bi x = y at *
                go_wp2
                go_ret
                exact ⟨by rw [HR.out]; rfl, rfl⟩
              · have HR : Hid (nameB cs = false) := nameB_bad HX.out ho
                have hy : bi x = 47 := by subst c3; unfold bi; rfl
                rw [hy] at hix c1 c2
                clear ho c3 hy
                go_wp2
                go_ret
                exact ⟨by rw [HR.out]; rfl, rfl⟩
              · have HO := Lib.hid ho
                clear ho
                generalize bi x = y at *
                go_wp2
                go_round
                case rel =>
                  refine ⟨k + 1, by omega, by go_num, fun j c hj hc => ?_⟩
                  by_cases e : j = k
                  · subst e; rw [HX.out] at hc; injection hc with hc; subst hc; exact HO.out
                  · exact HOK.out j c (by omega) hc
                case measure => simp [intOf]; omega
            · have HR : Hid (nameB cs = true) := by
                unfold Hid
                refine nameB_good (by rw [HL.out]; omega) (by rw [HL.out]; omega) (list_other_ H3.out) (list_other_ H4.out) (fun j c hc => HOK.out j c ?_ hc)
                have := (List.getElem?_eq_some_iff.1 hc).1
                rw [HL.out] at this
                omega
              obtain rfl : k = l := by omega
              go_wp2
              go_ret
              exact ⟨by rw [HR.out]; rfl, rfl⟩
theorem add_field' (x : Addr) (m j : Nat) (hj : 0 < j) : x.add (m + j) = ⟨(x.add m).block, (x.add m).off + j, none⟩ := by
  unfold Addr.add
  by_cases hm : m = 0
  · subst hm
    rw [if_neg (by omega)]
    simp
  · rw [if_neg (by omega), if_neg hm]
    simp [Nat.add_assoc]
theorem toList_ne' {s t : ByteArray} (h : t ≠ s) : (t.toList == s.toList) = false := by
  rw [beq_eq_false_iff_ne]
  intro e
  rw [ByteArray.toList_eq, ByteArray.toList_eq] at e
  exact h (ByteArray.ext (Array.toList_inj.1 e))
end Go.Proofs.Yteffiedolcjjlaa.Tx
/- Objects: plain, and as values. -/
namespace Go.Proofs.Yteffiedolcjjlaa.Ob
open Go.RowKit Go.Proofs.Yteffiedolcjjlaa.Sh
open Go.Proofs.Yteffiedolcjjlaa.Tx (OwnV SlV sv bl nameB reads_at texts_at toList_ne')

/-- An item: its mode, its name, its hash. -/
abbrev ItM := Int × List UInt8 × List UInt8
/-- An object. -/
structure ObM where
  kind : Int
  data : List UInt8
  items : List ItM
  tree : List UInt8
  parents : List (List UInt8)
  stamp : Int
  author : Int
  msg : List UInt8
def itC (x : ItM) : List Value := [.int .i64 x.1, .string (str x.2.1), .string (str x.2.2)]
theorem itC_one (l : List ItM) : ∀ u ∈ l.flatMap itC, u.oneCell' = true := by
  intro u hu
  rw [List.mem_flatMap] at hu
  obtain ⟨x, _, hx⟩ := hu
  simp [itC] at hx
  rcases hx with rfl | rfl | rfl <;> rfl
theorem itC_at (l : List ItM) : ∀ (k : Nat) (x : ItM), l[k]? = some x → (l.flatMap itC)[k * 3]? = some (.int .i64 x.1) ∧ (l.flatMap itC)[k * 3 + 1]? = some (.string (str x.2.1)) ∧ (l.flatMap itC)[k * 3 + 2]? = some (.string (str x.2.2)) := by
  induction l with
  | nil => intro k x h; simp at h
  | cons y l ih =>
    intro k x h
    cases k with
    | zero =>
      simp at h
      subst h
      exact ⟨rfl, rfl, rfl⟩
    | succ k =>
      obtain ⟨h0, h1, h2⟩ := ih k x (by simpa using h)
      have e : ∀ j, ((y :: l).flatMap itC)[(k + 1) * 3 + j]? = (l.flatMap itC)[k * 3 + j]? := by
        intro j
        rw [List.flatMap_cons, List.getElem?_append_right (by simp [itC]; omega)]
        congr 1
        simp [itC]
        omega
      exact ⟨(e 0).trans h0, (e 1).trans h1, (e 2).trans h2⟩
/-- v is a slice that reads as the items l. -/
def SlI (w : World) (v : Value) (l : List ItM) : Prop := ∃ A c, v = .slice A l.length c ∧ l.length ≤ c ∧ c ≤ maxLen ∧ (A = none → l = []) ∧ Reads w w.heap.size 3 A l.length (l.flatMap itC)
def OwnI (T : TypeId) (w : World) (B : Nat) (v : Value) (l : List ItM) : Prop := w.ownsRow B T 3 v l.length (l.flatMap itC)
section
variable {T : TypeId} {w w' : World} {B : Nat} {v : Value} {l : List ItM}
theorem SlI.below (h : SlI w v l) (hb : Below w.heap.size w w') : SlI w' v l := by
  obtain ⟨A, c, hv, h1, h2, h3, h4⟩ := h
  exact ⟨A, c, hv, h1, h2, h3, (h4.below hb).more hb.size⟩
theorem SlI.nil_ (w : World) : SlI w (.slice none 0 0) [] := ⟨none, 0, rfl, by simp, by unfold maxLen; omega, fun _ => rfl, ⟨by simp, fun h => absurd h (by simp)⟩⟩
theorem items_at {A : Option Addr} {n : Nat} (h : Reads w B 3 A n (l.flatMap itC)) (hn : n = l.length) (k : Nat) (x : ItM) (hk : l[k]? = some x) :
    ∃ ad, A = some ad ∧ w.cell? (ad.add (k * 3)) = some (.int .i64 x.1) ∧ w.cell? ⟨(ad.add (k * 3)).block, (ad.add (k * 3)).off + 1, none⟩ = some (.string (str x.2.1)) ∧ w.cell? ⟨(ad.add (k * 3)).block, (ad.add (k * 3)).off + 2, none⟩ = some (.string (str x.2.2)) := by
  have hl : k < l.length := (List.getElem?_eq_some_iff.1 hk).1
  obtain ⟨ad, e, _, hc⟩ := h.2 (by omega)
  obtain ⟨h0, h1, h2⟩ := itC_at l k x hk
  refine ⟨ad, e, hc _ _ h0, ?_, ?_⟩
  · rw [← Tx.add_field' ad (k * 3) 1 (by omega)]
    exact hc _ _ h1
  · rw [← Tx.add_field' ad (k * 3) 2 (by omega)]
    exact hc _ _ h2
theorem OwnI.nil_ (T : TypeId) (w : World) (B : Nat) : OwnI T w B (.slice none 0 0) [] := World.ownsRow_nil w B T 3
theorem OwnI.alloc (h : OwnI T w B v l) (o : Obj) : OwnI T (w.alloc o) B v l := World.ownsRow.alloc h o
theorem OwnI.drew (h : OwnI T w B v l) : OwnI T w.drew B v l := h
theorem OwnI.below (h : OwnI T w B v l) (hb : Below w.heap.size w w') : OwnI T w' B v l :=
  World.ownsRow.kept h (only_of_below hb none) (by cases hv : v.ownBlock <;> simp)
theorem OwnI.lt (h : OwnI T w B v l) (k : Nat) (hk : v.ownBlock = some k) : B ≤ k ∧ k < w.heap.size := World.ownsRow.lt h k hk
theorem OwnI.base {B' : Nat} (h : OwnI T w B v l) (hB : B' ≤ B) : OwnI T w B' v l := by
  refine ⟨h.1, ?_⟩
  rcases h.2 with h0 | ⟨g, cap, cur, hv, hb, rest⟩
  · exact .inl h0
  · exact .inr ⟨g, cap, cur, hv, by omega, rest⟩
theorem OwnI.slI (h : OwnI T w B v l) : SlI w v l := by
  rcases h.2 with ⟨rfl, h0⟩ | ⟨g, cap, cur, rfl, hb, hg, hc, hm, hcs, htk⟩
  · have : l = [] := List.eq_nil_of_length_eq_zero h0
    subst this
    exact SlI.nil_ w
  · have hr := Reads.of_own (show w.ownsRow B T 3 (.slice (some ⟨g, 0, none⟩) l.length cap) l.length (l.flatMap itC) from h)
    exact ⟨_, cap, rfl, hc, hm, (fun e => by cases e), hr⟩
end
/-- v is an object's value. -/
def ObV (w : World) (v : Value) (o : ObM) : Prop := ∃ d it ps, v = .agg #[.int .i64 o.kind, d, it, .string (str o.tree), ps, .int .i64 o.stamp, .int .i64 o.author, .string (str o.msg)] ∧ Sl w d o.data ∧ SlI w it o.items ∧ SlV w ps ((o.parents.map str).map sv)
theorem ObV.below {w w' : World} {v : Value} {o : ObM} (h : ObV w v o) (hb : Below w.heap.size w w') : ObV w' v o := by
  obtain ⟨d, it, ps, hv, h1, h2, h3⟩ := h
  exact ⟨d, it, ps, hv, h1.below hb, h2.below hb, h3.below hb⟩
/-- What a call that answers a bool leaves. -/
def BoolPost (w : World) (t : Bool) (e : Ending) (w' : World) : Prop := e = .returned (.bool t) ∧ Below w.heap.size w w'
end Go.Proofs.Yteffiedolcjjlaa.Ob
/- Lists of lists of bytes, in memory; marlaw10's Few, marref's Bytes. -/
set_option linter.unusedVariables false
set_option linter.unusedSimpArgs false
namespace Go.Proofs.Yteffiedolcjjlaa.Ob
open Go.RowKit Go.Proofs.Yteffiedolcjjlaa.Sh
open Go.Proofs.Yteffiedolcjjlaa.Tx (Shape InL TmpL OwnL Typed Only By Rd Datas list_appendL step_appendL)

theorem bv_tx : (Tx.bv : UInt8 → Value) = bv := by funext u; unfold Tx.bv bv Tx.bi bi; rfl
theorem by_sl {F : Nat → Prop} {w : World} {v : Value} {bs : List UInt8} (h : By F w v bs) : Sl w v bs := by
  obtain ⟨A, c, hv, h1, h2, h3, h4, h5⟩ := h
  refine ⟨A, c, hv, h1, h2, fun h0 => ?_, fun e => List.eq_nil_of_length_eq_zero (h4 e)⟩
  obtain ⟨ad, e, _, hl, hc⟩ := h5 h0
  refine ⟨ad, e, hl, fun j hj => ?_⟩
  refine hc j _ ?_
  rw [List.getElem?_map, List.getElem?_eq_getElem hj, List.getD_eq_getElem?_getD, List.getElem?_eq_getElem hj, bv_tx]
  rfl
theorem sl_by {w : World} {v : Value} {bs : List UInt8} (h : Sl w v bs) : By (fun k => k < w.heap.size) w v bs := by
  obtain ⟨A, c, hv, h1, h2, h3, h4⟩ := h
  refine ⟨A, c, hv, h1, h2, by simp, (fun e => by rw [h4 e]; rfl), fun h0 => ?_⟩
  obtain ⟨ad, e, hl, hc⟩ := h3 h0
  refine ⟨ad, e, hl, hl, fun j u hu => ?_⟩
  rw [List.getElem?_map] at hu
  cases hj : bs[j]? with
  | none => rw [hj] at hu; cases hu
  | some y =>
    rw [hj] at hu
    have hlt := (List.getElem?_eq_some_iff.1 hj).1
    rw [hc j hlt, List.getD_eq_getElem?_getD, hj]
    rw [← hu, bv_tx]
    rfl

/-- A list of lists of bytes. -/
def lstK : Shape where
  α := List UInt8
  cells := fun _ d => [d]
  data := fun e => e
  m := 1
  pos := by decide
  len := fun _ _ => rfl
  one := fun a d hd u hu => by
    rw [List.mem_singleton] at hu
    rw [hu]
    exact hd
/-- v reads as the lists of bytes l. -/
def LsV (w : World) (v : Value) (l : List (List UInt8)) : Prop := TmpL lstK (fun _ => True) w v l
section
variable {w w' : World} {v : Value} {l : List (List UInt8)}
theorem LsV.below (h : LsV w v l) (hb : Below w.heap.size w w') : LsV w' v l := TmpL.below (K := lstK) h hb
theorem LsV.slice (h : LsV w v l) : ∃ A c, v = .slice A l.length c ∧ l.length ≤ c ∧ c ≤ maxLen := TmpL.slice (K := lstK) h
theorem LsV.at_ {A : Option Addr} {n c : Nat} (h : LsV w (.slice A n c) l) (k : Nat) (a : List UInt8) (hk : l[k]? = some a) : ∃ (ad : Addr) (A2 : Option Addr) (c2 : Nat), A = some ad ∧ w.cell? (ad.add k) = some (.slice A2 a.length c2) ∧ a.length ≤ c2 ∧ c2 ≤ maxLen ∧ Sl w (.slice A2 a.length c2) a := by
  obtain ⟨ad, d, hA, hby, hc⟩ := TmpL.at_ (K := lstK) h k a hk
  obtain ⟨A2, c2, rfl, h1, h2⟩ := Tx.By.slice hby
  have := hc 0 _ rfl
  exact ⟨ad, A2, c2, hA, by simpa [lstK] using this, h1, h2, by_sl hby⟩
theorem LsV.nil_ (w : World) : LsV w (.slice none 0 0) [] := ⟨[], Rd.nil_ _ w _, Datas.nil_⟩
end
theorem sh_lst : ∀ (l : List (List UInt8)) (ds : List Value), ds.length = l.length → Tx.ShC lstK l ds = ds
  | [], [], _ => rfl
  | [], y :: b, h => by simp at h
  | x :: a, [], h => by simp at h
  | x :: a, y :: b, h => by
    show [y] ++ Tx.ShC lstK a b = y :: b
    exact congrArg (fun L : List Value => y :: L) (sh_lst a b (by simpa using h))
/-- A list of lists of bytes, told place by place. -/
theorem LsV.mk {w : World} {A : Option Addr} {c : Nat} {l : List (List UInt8)} (f : Nat → Value) (hlc : l.length ≤ c) (hcm : c ≤ maxLen) (h0 : A = none → l = []) (h : ∀ (k : Nat) (a : List UInt8), l[k]? = some a → ∃ ad, A = some ad ∧ ad.block < w.heap.size ∧ w.cell? (ad.add k) = some (f k) ∧ Sl w (f k) a) : LsV w (.slice A l.length c) l := by
  have hds : ((List.range l.length).map f).length = l.length := by simp
  have hsh := sh_lst l ((List.range l.length).map f) hds
  refine ⟨(List.range l.length).map f, ⟨A, c, rfl, hlc, hcm, ?_, fun e => ?_, fun hp => ?_⟩, ?_, fun i d b hi hb => ?_⟩
  · exact (congrArg List.length hsh).trans (hds.trans (Nat.mul_one _).symm)
  · have := h0 e
    subst this
    rfl
  · have hp' : 0 < l.length := hp
    obtain ⟨ad, e, hlt, _⟩ := h 0 l[0] (List.getElem?_eq_getElem hp')
    refine ⟨ad, e, trivial, hlt, fun j u hu => ?_⟩
    have hu2 : ((List.range l.length).map f)[j]? = some u := (congrArg (fun L : List Value => L[j]?) hsh).symm.trans hu
    rw [List.getElem?_map] at hu2
    cases hj : (List.range l.length)[j]? with
    | none => rw [hj] at hu2; cases hu2
    | some m =>
      rw [hj] at hu2
      obtain ⟨hjl, hjm⟩ := List.getElem?_eq_some_iff.1 hj
      rw [List.getElem_range] at hjm
      subst hjm
      rw [List.length_range] at hjl
      obtain ⟨ad', e', _, hc, _⟩ := h j l[j] (List.getElem?_eq_getElem hjl)
      rw [e] at e'
      injection e' with e'
      subst e'
      injection hu2 with hu2
      rw [hc, hu2]
  · have h9 : (l.map fun e => e).length = l.length := by rw [List.length_map]
    exact hds.trans h9.symm
  · have hb2 : l[i]? = some b := by
      have h9 : (l.map fun e => e)[i]? = some b := hb
      rw [List.getElem?_map] at h9
      cases hq : l[i]? with
      | none => rw [hq] at h9; cases h9
      | some y => rw [hq] at h9; exact h9
    rw [List.getElem?_map] at hi
    have hil := (List.getElem?_eq_some_iff.1 hb2).1
    rw [List.getElem?_range hil] at hi
    injection hi with hi
    obtain ⟨_, _, _, _, hsl⟩ := h i b hb2
    rw [← hi]
    exact (sl_by hsl).mono (fun _ _ _ => trivial)
def PFewPost (l : List (List UInt8)) (w : World) (e : Ending) (w' : World) : Prop := ∃ t, e = .returned (.bool t) ∧ (t = true → l.length ≤ 40 ∧ ∀ o ∈ l, o.length ≤ 1500) ∧ Below w.heap.size w w'
set_option maxRecDepth 100000 in
set_option maxHeartbeats 3200000 in
theorem pfew_any (v : Value) (l : List (List UInt8)) (w : World) (h : LsV w v l) : Calls Try.prog 8 #[v] w (PFewPost l w) := by
  obtain ⟨A, c, rfl, hlc, hcm⟩ := h.slice
  unfold maxLen at hcm
  have HL := Lib.hid h
  obtain ⟨n, hn⟩ : ∃ n, l.length = n := ⟨_, rfl⟩
  rw [hn] at HL hlc ⊢
  have HN := Lib.hid hn
  clear h hn
  go_enter Try.func8, Try.ntmps8
  go_wp2_with fail
  go_loopw [3, 4] (fun a x wr => ∃ (i : Nat) (s : Int), i ≤ n ∧ i ≤ 40 ∧ x = .int .i64 (i : Int) ∧ a = .int .i64 s ∧ 0 ≤ s ∧ s ≤ 24000 ∧ Below w.heap.size w wr ∧ ∀ (j : Nat) (o : List UInt8), j < i → l[j]? = some o → o.length ≤ 1500) (fun _ x _ => 41 - (intOf x).toNat)
  case atStart => exact ⟨0, 0, Nat.zero_le _, Nat.zero_le _, rfl, rfl, by omega, by omega, Below.refl _ _, fun j o hj => by omega⟩
  case round =>
    obtain ⟨i, s, hi, hi4, rfl, rfl, hs0, hs1, hb, hall⟩ := hrel
    have HB := Lib.hid hb
    have HALL := Lib.hid hall
    clear hb hall
    have z0 : (0 : Int) ≤ (i : Int) := by omega
    by_cases hlt : i < n
    · have z1 : (i : Int) < (n : Int) := by omega
      by_cases h40 : i < 40
      · have z2 : (i : Int) < 40 := by omega
        have hgi : l[i]? = some (l[i]'(by have := HN.out; omega)) := List.getElem?_eq_getElem _
        obtain ⟨o, ho⟩ : ∃ o, (l[i]'(by have := HN.out; omega)) = o := ⟨_, rfl⟩
        rw [ho] at hgi
        obtain ⟨ad, A2, c2, rfl, y0, _, _, hsl⟩ := (HL.out.below HB.out).at_ i o hgi
        have HGI := Lib.hid hgi
        obtain ⟨ol, hol⟩ : ∃ m, o.length = m := ⟨_, rfl⟩
        rw [hol] at y0
        have HOL := Lib.hid hol
        have z5 : (0 : Int) ≤ (ol : Int) := by omega
        clear hgi ho hsl hol
        go_upto_region 5 with (fail)
        go_cut [3] (fun a wx => ∃ s2 : Int, a = .int .i64 s2 ∧ 0 ≤ s2 ∧ s2 ≤ 24000 ∧ wx = wr)
        case first =>
          go_wp2_with fail
          all_goals
            go_meet
            exact ⟨_, rfl, by first | omega | (rw [IntKind.wrap_i64]; omega), by first | omega | (rw [IntKind.wrap_i64]; omega), rfl⟩
        case rest =>
          obtain ⟨s2, rfl, hs2, hs3, rfl⟩ := hcut
          by_cases h15 : ol ≤ 1500
          · have z3 : (ol : Int) ≤ 1500 := by omega
            go_wp2_with fail
            go_roundw
            case rel => exact ⟨i + 1, s2, by omega, by omega, by go_num, rfl, hs2, hs3, HB.out, fun j o' hj ho' => by
              by_cases e : j = i
              · subst e
                have : o' = o := by have := HGI.out; rw [this] at ho'; injection ho' with ho'; exact ho'.symm
                rw [this, HOL.out]; exact h15
              · exact HALL.out j o' (by omega) ho'⟩
            case measure => simp [intOf]; omega
          · have z3 : (1500 : Int) < (ol : Int) := by omega
            go_wp2_with fail
            go_ret
            exact ⟨false, rfl, (fun e => by cases e), HB.out⟩
      · have hi40 : i = 40 := by omega
        have z2 : (40 : Int) ≤ (i : Int) := by omega
        have z3 : (40 : Int) < (n : Int) := by omega
        go_wp2_with fail
        go_ret
        exact ⟨false, rfl, (fun e => by cases e), HB.out⟩
    · obtain rfl : i = n := by omega
      have z1 : (i : Int) ≤ 40 := by omega
      have hfin : l.length ≤ 40 ∧ ∀ o ∈ l, o.length ≤ 1500 := ⟨by rw [HN.out]; exact hi4, fun o ho => by
        obtain ⟨j, hj, e⟩ := List.getElem_of_mem ho
        exact HALL.out j o (by rw [← HN.out]; exact hj) (by rw [List.getElem?_eq_getElem hj, e])⟩
      have HF := Lib.hid hfin
      clear hfin hlt
      go_wp2_with fail
      go_ret
      exact ⟨_, rfl, fun _ => HF.out, HB.out⟩
end Go.Proofs.Yteffiedolcjjlaa.Ob
/- The reference's Sum: plain lists; what its blocks hold. -/
namespace Go.Proofs.Yteffiedolcjjlaa.Sh
open Go.RowKit

theorem blocks_add (s : St) (x y : List UInt8) (k j : Nat) (h : x.length = 64 * k) : blocks s (x ++ y) (k + j) = blocks (blocks s x k) y j := by
  induction j with
  | zero => rw [Nat.add_zero, blocks_zero, blocks_append _ _ _ _ (by omega)]
  | succ j ih =>
    rw [← Nat.add_assoc, blocks_next, blocks_next, ih]
    congr 1
    rw [List.drop_append, List.drop_eq_nil_of_le (by omega), List.nil_append, show 64 * (k + j) - x.length = 64 * j from by omega]
theorem sum_pad (bs : List UInt8) : sumOf bs = outB (blocks St.first (lastOf bs bs.length) ((lastOf bs bs.length).length / 64)) := by
  obtain ⟨n, hn⟩ : ∃ n, bs.length = n := ⟨_, rfl⟩
  obtain ⟨x, hx⟩ : ∃ x, bs.take (64 * (n / 64)) = x := ⟨_, rfl⟩
  have hxl : x.length = 64 * (n / 64) := by rw [← hx, List.length_take, hn]; omega
  have e1 : lastOf bs n = x ++ lastOf (tail64 bs) n := by
    unfold lastOf tail64
    rw [hn, ← hx, ← List.append_assoc, ← List.append_assoc, List.take_append_drop]
  have e2 : full bs = blocks St.first x (n / 64) := by
    rw [full_eq, hn]
    conv => lhs; rw [← List.take_append_drop (64 * (n / 64)) bs, hx]
    exact blocks_append _ _ _ _ (by omega)
  rw [sumOf_eq, hn, e1, e2, ← blocks_add _ _ _ _ _ hxl]
  congr 2
  rw [List.length_append, hxl]
  omega
theorem lastOf_len (bs : List UInt8) (n : Nat) (h : bs.length = n) : (lastOf bs n).length = n + zeros n + 9 := by
  unfold lastOf
  rw [List.length_append, List.length_append, List.length_cons, List.length_replicate, len8_length, h]
  omega
theorem lastOf_mul (bs : List UInt8) (n : Nat) (h : bs.length = n) : ∃ N, (lastOf bs n).length = 64 * N ∧ N ≤ n / 64 + 2 := by
  refine ⟨(n + zeros n + 9) / 64, ?_⟩
  rw [lastOf_len bs n h]
  unfold zeros
  omega

def RF (w0 w : World) (gk gh gm : Nat) (cur : Array Value) (s : St) : Prop :=
  Blk w gk 131 kv.toArray ∧ Blk w gh 131 (stc s) ∧ Blk w gm 5 cur ∧ Below w0.heap.size w0 w
section
variable {w0 w : World} {gk gh gm : Nat} {cur : Array Value} {s : St}
theorem RF.far (h : RF w0 w gk gh gm cur s) {p : Addr} (n1 : gk ≠ p.block) (n2 : gh ≠ p.block) (n3 : gm ≠ p.block) (hb : w0.heap.size ≤ p.block) (u : Value) : RF w0 (w.setCell p u) gk gh gm cur s :=
  ⟨h.1.far n1 u, h.2.1.far n2 u, h.2.2.1.far n3 u, h.2.2.2.setCell hb u⟩
theorem RF.drewN (h : RF w0 w gk gh gm cur s) (k : Nat) : RF w0 (w.drewN k) gk gh gm cur s := ⟨h.1, h.2.1, h.2.2.1, below_drewN h.2.2.2 k⟩
theorem RF.drew (h : RF w0 w gk gh gm cur s) : RF w0 w.drew gk gh gm cur s := ⟨h.1, h.2.1, h.2.2.1, h.2.2.2.drew⟩
theorem RF.alloc (h : RF w0 w gk gh gm cur s) (o : Obj) : RF w0 (w.alloc o) gk gh gm cur s := ⟨h.1.alloc o, h.2.1.alloc o, h.2.2.1.alloc o, h.2.2.2.alloc h.2.2.2.size o⟩
theorem RF.row (h : RF w0 w gk gh gm cur s) {g : Nat} (n1 : gk ≠ g) (n2 : gh ≠ g) (n3 : gm ≠ g) (hb : w0.heap.size ≤ g) (c : Array Value) : RF w0 (w.setRow g c) gk gh gm cur s :=
  ⟨h.1.rowFar n1 c, h.2.1.rowFar n2 c, h.2.2.1.rowFar n3 c, below_setRow h.2.2.2 hb c⟩
end

/-- Block g holds 64 words of which the first n are those of bs. -/
def Sc (bs : List UInt8) (w : World) (g n : Nat) : Prop :=
  ∃ cs, Blk w g 131 cs ∧ cs.size = 64 ∧ (∀ j, j < n → cs[j]? = some (wv (wd bs j))) ∧ ∀ j, j < 64 → ∃ u, cs[j]? = some (.int .u32 u)
theorem Sc.zero {bs bs' : List UInt8} {w : World} {g n : Nat} (h : Sc bs w g n) : Sc bs' w g 0 := by
  obtain ⟨cs, h1, h2, _, h4⟩ := h
  exact ⟨cs, h1, h2, fun j hj => by omega, h4⟩
theorem Sc.set {bs : List UInt8} {w : World} {g k : Nat} (h : Sc bs w g k) (hk : k < 64) (u : UInt32) (hu : u = wd bs k) : Sc bs (w.setCell ⟨g, k, none⟩ (.int .u32 (wi u))) g (k + 1) := by
  obtain ⟨cs, hb, hz, hd, hi⟩ := h
  rw [hu]
  have hget : ∀ j, (cs.setIfInBounds k (.int .u32 (wi (wd bs k))))[j]? = if k = j then some (wv (wd bs k)) else cs[j]? := by
    intro j
    rw [Array.getElem?_setIfInBounds]
    by_cases e : k = j
    · subst e; rw [if_pos rfl, if_pos (by omega), if_pos rfl]; rfl
    · rw [if_neg e, if_neg e]
  refine ⟨_, hb.set_ k _, ?_, ?_, ?_⟩
  · rw [Array.size_setIfInBounds]; exact hz
  · intro j hj
    rw [hget]
    by_cases e : k = j
    · subst e; rw [if_pos rfl]
    · rw [if_neg e]; exact hd j (by omega)
  · intro j hj
    rw [hget]
    by_cases e : k = j
    · subst e; rw [if_pos rfl]; exact ⟨_, rfl⟩
    · rw [if_neg e]; exact hi j hj
theorem Sc.drew {bs : List UInt8} {w : World} {g n : Nat} (h : Sc bs w g n) : Sc bs w.drew g n := h
theorem Sc.drewN {bs : List UInt8} {w : World} {g n : Nat} (h : Sc bs w g n) (k : Nat) : Sc bs (w.drewN k) g n := h
theorem Sc.alloc {bs : List UInt8} {w : World} {g n : Nat} (h : Sc bs w g n) (o : Obj) : Sc bs (w.alloc o) g n := by
  obtain ⟨cs, hb, r⟩ := h
  exact ⟨cs, hb.alloc o, r⟩
theorem Sc.far {bs : List UInt8} {w : World} {g n : Nat} (h : Sc bs w g n) {p : Addr} (hp : g ≠ p.block) (u : Value) : Sc bs (w.setCell p u) g n := by
  obtain ⟨cs, hb, r⟩ := h
  exact ⟨cs, hb.far hp u, r⟩
theorem Sc.row {bs : List UInt8} {w : World} {g n : Nat} (h : Sc bs w g n) {g' : Nat} (hp : g ≠ g') (c : Array Value) : Sc bs (w.setRow g' c) g n := by
  obtain ⟨cs, hb, r⟩ := h
  exact ⟨cs, hb.rowFar hp c, r⟩
theorem Sc.cell {bs : List UInt8} {w : World} {g n : Nat} (h : Sc bs w g n) (j : Nat) (hj : j < n) : w.cell? ⟨g, j, none⟩ = some (.int .u32 (wi (wd bs j))) := by
  obtain ⟨cs, hb, _, hd, _⟩ := h
  rw [hb.cell]; exact hd j hj
theorem Sc.any {bs : List UInt8} {w : World} {g n : Nat} (h : Sc bs w g n) (j : Nat) (hj : j < 64) : ∃ u, w.cell? ⟨g, j, none⟩ = some (.int .u32 u) := by
  obtain ⟨cs, hb, _, _, hi⟩ := h
  obtain ⟨u, hu⟩ := hi j hj
  exact ⟨u, by rw [hb.cell]; exact hu⟩
theorem Sc.frozen {bs : List UInt8} {w : World} {g n : Nat} (h : Sc bs w g n) (j : Nat) : w.frozen? ⟨g, j, none⟩ = false := by
  obtain ⟨cs, hb, _⟩ := h
  exact hb.frozen j
theorem made_any {c : Value} (k j : Nat) (hj : j < k) : (madeCells #[c] k)[j]? = some c := by
  rw [← Array.getElem?_toList, toList_madeCells_one, List.getElem?_replicate, if_pos hj]
theorem Sc.made (bs : List UInt8) (w : World) : Sc bs (w.alloc (.cells (madeCells #[.int .u32 0] 64) 131)) w.heap.size 0 := by
  refine ⟨_, heap_alloc_new _ _, by rw [size_madeCells], fun j hj => by omega, fun j hj => ⟨0, made_any 64 j hj⟩⟩

/-- h in the midst of being added to. -/
def mix (s t : St) (i : Nat) : Array Value := (((plus s t).list.take i ++ s.list.drop i).map wv).toArray
theorem mix_zero (s t : St) : mix s t 0 = stc s := rfl
theorem mix_all (s t : St) : mix s t 8 = stc (plus s t) := rfl
theorem mix_get (s t : St) (i : Nat) (hi : i < 8) : (mix s t i)[i]? = some (.int .u32 (wi (s.list.getD i 0))) := by
  obtain rfl | rfl | rfl | rfl | rfl | rfl | rfl | rfl : i = 0 ∨ i = 1 ∨ i = 2 ∨ i = 3 ∨ i = 4 ∨ i = 5 ∨ i = 6 ∨ i = 7 := by omega
  all_goals rfl
theorem stc_get (s : St) (i : Nat) (hi : i < 8) : (stc s)[i]? = some (.int .u32 (wi (s.list.getD i 0))) := by
  obtain rfl | rfl | rfl | rfl | rfl | rfl | rfl | rfl : i = 0 ∨ i = 1 ∨ i = 2 ∨ i = 3 ∨ i = 4 ∨ i = 5 ∨ i = 6 ∨ i = 7 := by omega
  all_goals rfl
theorem mix_set (s t : St) (i : Nat) (hi : i < 8) : (mix s t i).setIfInBounds i (.int .u32 (wi (s.list.getD i 0 + t.list.getD i 0))) = mix s t (i + 1) := by
  obtain rfl | rfl | rfl | rfl | rfl | rfl | rfl | rfl : i = 0 ∨ i = 1 ∨ i = 2 ∨ i = 3 ∨ i = 4 ∨ i = 5 ∨ i = 6 ∨ i = 7 := by omega
  all_goals simp [mix, St.list, plus, wv]
theorem make_words (w : World) :
    (Instr.makeSlice 129 (.int .i64 64) (.int .i64 64)).run Try.prog w = .ok (.slice (some ⟨w.heap.size, 0, none⟩) 64 64) (w.alloc (.cells (madeCells #[.int .u32 0] 64) 131)) := by
  kernel_rfl
end Go.Proofs.Yteffiedolcjjlaa.Sh
