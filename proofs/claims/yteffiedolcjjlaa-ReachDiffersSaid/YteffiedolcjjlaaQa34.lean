/- Texts put together: YRc2, YRc3. -/
import Derived.Test.YteffiedolcjjlaaQa16
import Derived.Test.YteffiedolcjjlaaQa33
import Derived.Test.YteffiedolcjjlaaQa32
import Derived.Test.YteffiedolcjjlaaQa30
import Derived.Defers
import Derived.Recover
/- Package reach: walk. -/
set_option linter.unusedVariables false
set_option linter.unusedSimpArgs false
namespace Go.Proofs.Yteffiedolcjjlaa.Tx
open Go.RowKit Go.Maps Go.Proofs.Yteffiedolcjjlaa.Sh

/-- A function, bound to what stands at b, that tells what a text names; J: what holds when it was asked of a list of texts; its blocks are of Z, all from B on. -/
structure NextOK (B b : Nat) (fn : FuncId) (nx : ByteArray → List ByteArray) (J : (Nat → Prop) → List ByteArray → World → Prop) : Prop where
  enters : ∀ (args : Array Value) (w : World), (callFunc fn args).run Try.prog w = .ok (.enter fn args) w
  only : ∀ {Z M : Nat → Prop} {asked : List ByteArray} {W W' : World}, J Z asked W → Only M W W' → (∀ k, Z k → ¬ M k) → (∀ k, M k → B ≤ k) → J Z asked W'
  lt : ∀ {Z : Nat → Prop} {asked : List ByteArray} {W : World}, J Z asked W → ∀ k, Z k → B ≤ k ∧ k < W.heap.size
  size : ∀ {Z : Nat → Prop} {asked : List ByteArray} {W : World}, J Z asked W → B ≤ W.heap.size
  call : ∀ {Z : Nat → Prop} {asked : List ByteArray} {W : World} (id : ByteArray), J Z asked W → asked.length ≤ 100000 → id.size ≤ 1000000 →
    Calls Try.prog fn #[.pointer (some ⟨b, 0, none⟩), .string id] W fun e w' => ∃ v Z', e = .returned v ∧ J Z' (asked ++ [id]) w' ∧ Rd Z' w' 1 v (nx id).length ((nx id).map sv) ∧ Only Z W w' ∧ ∀ k, Z' k → Z k ∨ W.heap.size ≤ k
  few : ∀ id, (nx id).length ≤ 40000 ∧ ∀ s ∈ nx id, s.size ≤ 1000000
def WalkPost (B b : Nat) (fn : FuncId) (nx : ByteArray → List ByteArray) (J : (Nat → Prop) → List ByteArray → World → Prop) (Z : Nat → Prop) (asked ids : List ByteArray) (most : Int) (W : World) (e : Ending) (w' : World) : Prop :=
  (¬ (1 ≤ most ∧ most ≤ 2000) ∧ e = .returned (.tuple #[.slice none 0 0, .int .i64 1]) ∧ w' = W) ∨
  ((1 ≤ most ∧ most ≤ 2000) ∧ ∃ xs k Z', WK nx ids xs k ∧ k ≤ 2000 ∧ (∀ s ∈ xs, s.size ≤ 1000000) ∧ J Z' (asked ++ xs.take k) w' ∧ Only Z W w' ∧ (∀ j, Z' j → Z j ∨ W.heap.size ≤ j) ∧
    ((k = xs.length ∧ (xs.length : Int) ≤ most ∧ ∃ v, e = .returned (.tuple #[v, .int .i64 0]) ∧ OwnV 9 w' W.heap.size v (xs.map sv) ∧ ∀ j, v.ownBlock = some j → ¬ Z' j) ∨
     (most < (xs.length : Int) ∧ e = .returned (.tuple #[.slice none 0 0, .int .i64 14]))))
theorem take_next {xs us : List ByteArray} {k : Nat} {s : ByteArray} (hk : xs[k]? = some s) : (addW xs us).take (k + 1) = xs.take k ++ [s] := by
  obtain ⟨hl, e⟩ := List.getElem?_eq_some_iff.1 hk
  obtain ⟨r, hr⟩ := (addW_pre : xs <+: addW xs us)
  rw [← hr, List.take_append_of_le_length hl, List.take_succ_eq_append_getElem hl, e]
structure WI (B b g bm : Nat) (fn : FuncId) (nx : ByteArray → List ByteArray) (J : (Nat → Prop) → List ByteArray → World → Prop) (Z : Nat → Prop) (asked ids : List ByteArray) (W wr : World) (xs : List ByteArray) (k : Nat) (v : Value) (Z' : Nat → Prop) : Prop where
  wk : WK nx ids xs k
  sz : ∀ s ∈ xs, s.size ≤ 1000000
  wx : WX g bm W.heap.size wr v xs
  j : J Z' (asked ++ xs.take k) wr
  only : Only Z W wr
  z : ∀ j, Z' j → Z j ∨ W.heap.size ≤ j
  apart : ∀ j, WS g bm v j → ¬ Z' j
  few : xs.length ≤ 100000
  base : B ≤ W.heap.size
section
variable {B b g bm : Nat} {fn : FuncId} {nx : ByteArray → List ByteArray} {J : (Nat → Prop) → List ByteArray → World → Prop} {Z Z' Z2 : Nat → Prop} {asked ids xs us : List ByteArray} {W wr wr2 w2 : World} {k : Nat} {v v2 : Value} {s : ByteArray}
/-- A text asked, and what it names put to the others. -/
theorem WI.step (hN : NextOK B b fn nx J) (h : WI B b g bm fn nx J Z asked ids W wr xs k v Z') (hk : xs[k]? = some s) (hl : xs.length ≤ 2000)
    (hj : J Z2 (asked ++ xs.take k ++ [s]) wr2) (ho : Only Z' wr wr2) (hz : ∀ j, Z2 j → Z' j ∨ wr.heap.size ≤ j)
    (hx : WX g bm W.heap.size w2 v2 (addW xs (nx s))) (ho2 : Only (WS g bm v) wr2 w2) (hws : ∀ j, WS g bm v2 j → WS g bm v j ∨ wr2.heap.size ≤ j) : WI B b g bm fn nx J Z asked ids W w2 (addW xs (nx s)) (k + 1) v2 Z2 := by
  have hap : ∀ j, WS g bm v j → ¬ Z2 j := fun j hj hj2 => by
    rcases hz j hj2 with h1 | h1
    · exact h.apart j hj h1
    · have := (h.wx.lt j hj).2; omega
  refine ⟨h.wk.next hk, fun t ht => ?_, hx, ?_, ?_, fun j hj2 => ?_, fun j hj2 hz2 => ?_, ?_, ?_⟩
  · rcases (mem_addW t).1 ht with h1 | h1
    · exact h.sz t h1
    · exact (hN.few s).2 t h1
  · rw [take_next hk, ← List.append_assoc]
    refine hN.only hj ho2 (fun j hj2 hw => hap j hw hj2) (fun j hw => ?_)
    have h1 := (h.wx.lt j hw).1
    have h2 := h.base
    omega
  · refine (h.only.trans ho h.z).trans ho2 (fun j hj2 => .inr ?_)
    exact (h.wx.lt j hj2).1
  · rcases hz j hj2 with h1 | h1
    · exact h.z j h1
    · right; have := h.only.size; omega
  · rcases hws j hj2 with h1 | h1
    · exact hap j h1 hz2
    · have := (hN.lt hj j hz2).2; omega
  · have h1 := addW_len (acc := xs) (xs := nx s)
    have h2 := (hN.few s).1
    omega
  · exact h.base
end
set_option maxRecDepth 100000 in
set_option maxHeartbeats 1600000 in
theorem walk_any {B b : Nat} {fn : FuncId} {nx : ByteArray → List ByteArray} {J : (Nat → Prop) → List ByteArray → World → Prop} {Z F : Nat → Prop} {asked ids : List ByteArray} {W : World} {vi : Value} (most : Int) (hN : NextOK B b fn nx J) (hj : J Z asked W) (hal : asked.length ≤ 90000)
    (hr : Rd F W 1 vi ids.length (ids.map sv)) (hFl : ∀ k, F k → k < W.heap.size) (hsz : ∀ s ∈ ids, s.size ≤ 1000000) (hl : ids.length ≤ 100000) :
    Calls Try.prog 77 #[vi, .int .i64 most, .func (.func fn) #[.pointer (some ⟨b, 0, none⟩)] #[]] W (WalkPost B b fn nx J Z asked ids most W) := by
  obtain ⟨A, c, rfl, hlc, hcm⟩ : ∃ A c, vi = .slice A ids.length c ∧ ids.length ≤ c ∧ c ≤ maxLen := by
    obtain ⟨A, c, h1, h2, h3, _⟩ := hr
    exact ⟨A, c, h1, h2, h3⟩
  have b1 : Below W.heap.size W ((W.alloc (.map #[] 0)).alloc (.cells #[.slice none 0 0, .map (some W.heap.size)] 137)) := ((Below.refl _ _).alloc (Nat.le_refl _) _).alloc (by simp) _
  have hw0 : WX (W.heap.size + 1) W.heap.size W.heap.size ((W.alloc (.map #[] 0)).alloc (.cells #[.slice none 0 0, .map (some W.heap.size)] 137)) (.slice none 0 0) [] := by
    refine ⟨?_, OwnV.nil_ _ _, ⟨.map [], (World.ownsMap_made (H := Unit) W Try.prog 9 unitElem).alloc _, MetOK.nil_⟩, by omega, Nat.le_refl _⟩
    have h9 := Blk.new (W.alloc (.map #[] 0)) 137 #[.slice none 0 0, .map (some W.heap.size)]
    rwa [show (W.alloc (.map #[] 0)).heap.size = W.heap.size + 1 from by simp] at h9
  have hws0 : ∀ k, WS (W.heap.size + 1) W.heap.size (.slice none 0 0) k → W.heap.size ≤ k := fun k hk => by
    rcases hk with rfl | rfl | hk
    · omega
    · omega
    · cases hk
  have hadd := wadd_any (F := F) hw0 (hr.below b1) (fun k hk hw => by have := hws0 k hw; have := hFl k hk; omega) (fun k hk => by have := hFl k hk; have := b1.size; omega) hsz (by simpa using (show ids.length ≤ 1000000 by omega)) b1.size
  have HADD := Lib.hid hadd
  have HW0 := Lib.hid hws0
  have HB1 := Lib.hid b1
  obtain ⟨W1, hW1⟩ : ∃ X, X = ((W.alloc (.map #[] 0)).alloc (.cells #[.slice none 0 0, .map (some W.heap.size)] 137)) := ⟨_, rfl⟩
  rw [← hW1] at HADD HB1
  have HW1 := Lib.hid hW1
  clear hw0 b1 hws0 hadd hW1
  have HR := Lib.hid hr
  unfold maxLen at hcm
  obtain ⟨n, hn⟩ : ∃ n, ids.length = n := ⟨_, rfl⟩
  rw [hn] at HADD HR hlc hl ⊢
  have HNL := Lib.hid hn
  have HN := Lib.hid hN
  have HAL := Lib.hid hal
  have HJ := Lib.hid hj
  have HFL := Lib.hid hFl
  have HSZ := Lib.hid hsz
  clear hr hN hj hal hFl hsz hn
  have hen := HN.out.enters
  by_cases h1 : most < 1
  · clear hen
    go_enter Try.func77, Try.ntmps77
    go_wp2_with fail
    go_ret2
    exact .inl ⟨fun h => by omega, rfl, rfl⟩
  by_cases h2 : 2000 < most
  · clear hen
    have h1' : 1 ≤ most := by omega
    go_enter Try.func77, Try.ntmps77
    go_wp2_with fail
    go_ret2
    exact .inl ⟨fun h => by omega, rfl, rfl⟩
  have h1' : 1 ≤ most := by omega
  have h2' : most ≤ 2000 := by omega
  have HMO : Hid (1 ≤ most ∧ most ≤ 2000) := ⟨h1', h2'⟩
  clear h1 h2
  have hmm := @run_makeMap Try.prog
  go_enter Try.func77, Try.ntmps77
  go_wp2_with fail
  rw [← HW1.out]
  refine HADD.out.mono ?_
  rintro e w2 ⟨rfl, v2, hx2, ho2, hws2⟩
  have HI0 : Hid (WI B b (W.heap.size + 1) W.heap.size fn nx J Z asked ids W w2 (addW [] ids) 0 v2 Z) := by
    have hbase := HN.out.size HJ.out
    have hon : Only (fun _ => False) W w2 := (Only.of_below (M := fun _ => False) HB1.out).trans ho2 (fun k hk => .inr (HW0.out k hk))
    refine ⟨WK.start, fun s hs => ?_, hx2, ?_, hon.more (fun _ _ h => h.elim), fun j hj => .inl hj, fun j hj hz => ?_, ?_, hbase⟩
    · rcases (mem_addW s).1 hs with h | h
      · cases h
      · exact HSZ.out s h
    · rw [List.take_zero, List.append_nil]
      exact HN.out.only HJ.out hon (fun _ _ h => h) (fun _ h => h.elim)
    · have := (HN.out.lt HJ.out j hz).2
      have := (hx2.lt j hj).1
      omega
    · have := addW_len (acc := []) (xs := ids)
      have := HNL.out
      simp at *
      omega
  clear hx2 ho2 hws2
  go_wp2_with fail
  go_loopw [9] (fun x wr => ∃ (k : Nat) (xs : List ByteArray) (v : Value) (Z' : Nat → Prop), x = .int .i64 (k : Int) ∧ WI B b (W.heap.size + 1) W.heap.size fn nx J Z asked ids W wr xs k v Z' ∧ k ≤ 2000) (fun x _ => 2001 - (intOf x).toNat)
  case atStart => exact ⟨0, _, v2, Z, rfl, HI0.out, by omega⟩
  case round =>
    obtain ⟨k, xs, v, Z', rfl, hi, hk2⟩ := hrel
    have HI := Lib.hid hi
    have q0 := hi.wx.c0
    obtain ⟨A2, c2, hv2, hlc2, hcm2⟩ := hi.wx.own.length
    unfold maxLen at hcm2
    rw [List.length_map] at hv2 hlc2
    have hle := hi.wk.le
    subst hv2
    obtain ⟨m, hm⟩ : ∃ m, xs.length = m := ⟨_, rfl⟩
    rw [hm] at q0 HI hlc2 hle
    have HM := Lib.hid hm
    clear hi hm
    have z0 : (0 : Int) ≤ (k : Int) := by omega
    by_cases hlt : k < m
    · have z1 : (k : Int) < (m : Int) := by omega
      by_cases hmm2 : (m : Int) ≤ most
      · have hkx : k < xs.length := by have := HM.out; omega
        obtain ⟨s, hs⟩ : ∃ s, xs[k]? = some s := ⟨_, List.getElem?_eq_getElem hkx⟩
        have HS := Lib.hid hs
        have HSS : Hid (s.size ≤ 1000000) := HI.out.sz s (List.mem_of_getElem? hs)
        obtain ⟨ad, rfl, x0⟩ : ∃ ad, A2 = some ad ∧ wr.cell? (ad.add k) = some (.string s) := by
          obtain ⟨A', c', e', _, _, hrd, _⟩ := HI.out.wx.own.slv
          injection e' with e' _ _
          subst e'
          exact reads_at hrd k (sv s) (by rw [List.getElem?_map, hs]; rfl)
        have HXL : Hid (xs.length ≤ 2000) := by unfold Hid; have := HM.out; have := HMO.out.2; omega
        have HKL : Hid (k + 1 ≤ 2000) := by unfold Hid; have := HXL.out; omega
        clear hkx hs
        go_wp2_with fail
        refine (HN.out.call s HI.out.j (by have := HAL.out; have := HKL.out; rw [List.length_append, List.length_take]; omega) HSS.out).mono ?_
        rintro e w3 ⟨v3, Z2, rfl, hj3, hrd3, ho3, hz3⟩
        have hap : ∀ j, WS (W.heap.size + 1) W.heap.size (.slice (some ad) m c2) j → ¬ Z2 j := fun j hj hj2 => by
          rcases hz3 j hj2 with h1 | h1
          · exact HI.out.apart j hj h1
          · have := (HI.out.wx.lt j hj).2; omega
        have hx3 := HI.out.wx.only ho3 (fun j hj hz => HI.out.apart j hj hz)
        have hle3 : W.heap.size ≤ w3.heap.size := Nat.le_trans HI.out.only.size ho3.size
        have HADD3 := Lib.hid (wadd_any (F := Z2) hx3 hrd3 (fun j hz hj => hap j hj hz) (fun j hz => (HN.out.lt hj3 j hz).2) (HN.out.few s).2 (by have := (HN.out.few s).1; have := HXL.out; omega) hle3)
        have HJ3 := Lib.hid hj3
        have HO3 := Lib.hid ho3
        have HZ3 := Lib.hid hz3
        clear hj3 hrd3 ho3 hz3 hap hx3 hle3
        go_wp2_with fail
        refine HADD3.out.mono ?_
        rintro e w4 ⟨rfl, v4, hx4, ho4, hws4⟩
        have HI4 := Lib.hid (HI.out.step HN.out HS.out HXL.out HJ3.out HO3.out HZ3.out hx4 ho4 hws4)
        clear hx4 ho4 hws4
        go_wp2_with fail
        go_roundw
        case rel => exact ⟨k + 1, _, v4, Z2, by go_num, HI4.out, HKL.out⟩
        case measure => simp [intOf]; have := HKL.out; omega
      · have hmm3 : most < (m : Int) := by omega
        clear hmm2
        go_wp2_with fail
        go_ret2
        refine .inr ⟨HMO.out, xs, k, Z', HI.out.wk, hk2, HI.out.sz, HI.out.j, HI.out.only, HI.out.z, .inr ⟨by rw [HM.out]; exact hmm3, rfl⟩⟩
    · obtain rfl : k = m := by omega
      by_cases hmm2 : (k : Int) ≤ most
      · go_wp2_with fail
        go_ret2
        refine .inr ⟨HMO.out, xs, k, Z', HI.out.wk, hk2, HI.out.sz, HI.out.j, HI.out.only, HI.out.z, .inl ⟨HM.out.symm, by rw [HM.out]; exact hmm2, _, rfl, HI.out.wx.own, fun j hj => HI.out.apart j (.inr (.inr hj))⟩⟩
      · have hmm3 : most < (k : Int) := by omega
        clear hmm2
        go_wp2_with fail
        go_ret2
        refine .inr ⟨HMO.out, xs, k, Z', HI.out.wk, hk2, HI.out.sz, HI.out.j, HI.out.only, HI.out.z, .inr ⟨by rw [HM.out]; exact hmm3, rfl⟩⟩
end Go.Proofs.Yteffiedolcjjlaa.Tx
/- Package reach: what a source tells of a hash: ask, look. -/
set_option linter.unusedVariables false
set_option linter.unusedSimpArgs false
namespace Go.Proofs.Yteffiedolcjjlaa.Ob
open Go.RowKit Go.Proofs.Yteffiedolcjjlaa.Sh
open Go.Proofs.Yteffiedolcjjlaa.Tx (OwnV SlV sv Only Rd reads_at)

/-- The object of a hash, if there is one. -/
def objP (base : List UInt8 → Option (List UInt8)) (id : List UInt8) : Option ObM :=
  match base id with
  | none => none
  | some b => if decB b = true then some (objR b).1 else none
def isP (base : List UInt8 → Option (List UInt8)) (s : ByteArray) : Bool := (objP base s.toList).isSome
def refO : Option ObM → List (List UInt8)
  | none => []
  | some o => refsL o
def nxP (base : List UInt8 → Option (List UInt8)) (s : ByteArray) : List ByteArray := (refO (objP base s.toList)).map str
theorem objP_none {base : List UInt8 → Option (List UInt8)} {id : List UInt8} (h : base id = none) : objP base id = none := by unfold objP; rw [h]
theorem objP_some {base : List UInt8 → Option (List UInt8)} {id b : List UInt8} (h : base id = some b) : objP base id = if decB b = true then some (objR b).1 else none := by unfold objP; rw [h]
theorem decB_may {b : List UInt8} (h : decB b = true) : mayB (objR b).1 = true := by
  unfold decB at h
  simp only [Bool.and_eq_true] at h
  exact h.2
theorem may_few {o : ObM} (h : mayB o = true) : o.items.length ≤ 400 ∧ o.parents.length ≤ 400 := by
  rcases mayB_kind h with ⟨_, hb⟩ | ⟨_, hb⟩ | ⟨_, hb⟩
  · have h2 := (blobB_of hb).2
    unfold objK at h2
    injection h2 with a1 a2 a3 a4 a5
    exact ⟨by rw [a3]; simp, by rw [a5]; simp⟩
  · have h2 := (treeB_of hb).2
    have h3 := (itemsB_of (treeB_of hb).1).1
    unfold objK at h2
    injection h2 with a1 a2 a3 a4 a5
    exact ⟨by omega, by rw [a5]; simp⟩
  · obtain ⟨_, c2, c3⟩ := commB_of hb
    have := (parB_of c3.par).1
    exact ⟨by rw [c2]; simp, by omega⟩
theorem ask1_idle (p q : Addr) (w : World) : CallsD Try.prog 143 #[.pointer (some p), .pointer (some q)] .returning w fun e u' w' => e = .returned (.tuple #[]) ∧ u' = .returning ∧ w' = w := by
  refine callsD_of_wpS Try.func143 rfl fun c₀ cs hu => ?_
  apply wpS_seq
  apply wpS_region
  simp [wpOpsS, go_sem, recoverD, hu, Try.ntmps143, Exit.thenS]
  refine wpS_cond (t := false) (by simp [Act.eval, Array.replicate]) ?_
  simp only [Bool.false_eq_true, if_false]
  refine wpS_of_wp (wp_skip ?_)
  cases c₀
  simp_all [bodyPostS, results, Try.results143]
/-- A source, as a value. -/
def srcV (p1 p2 p3 : Nat) : Value := .func (.func 46) #[] #[.pointer (some ⟨p1, 0, none⟩), .pointer (some ⟨p2, 0, none⟩), .pointer (some ⟨p3, 0, none⟩)]
set_option maxRecDepth 100000 in
set_option maxHeartbeats 1600000 in
theorem ask_any {p1 p2 p3 : Nat} {l : List (List UInt8)} {lie : Bool} {w : World} (id : ByteArray) (h : SrcX w p1 p2 p3 l lie) (hl : l.length ≤ 1000000) (hs : ∀ x ∈ l, x.length ≤ 1000000) :
    Calls Try.prog 126 #[srcV p1 p2 p3, .string id] w (AskR (srcP l lie) id w) := by
  have hmf : ∀ (fn : Fn) (first cap : Array Value) (w : World), (Instr.makeFunc fn first cap).run Try.prog w = .ok (.func fn first cap) w := fun _ _ _ _ => rfl
  obtain ⟨wa, hwa⟩ : ∃ W, W = ((w.alloc (.cells #[.slice none 0 0] 34)).alloc (.cells #[.bool false] 4)) := ⟨_, rfl⟩
  have hz1 : (w.alloc (.cells #[.slice none 0 0] 34)).heap.size = w.heap.size + 1 := by simp
  have HB : Hid (Below w.heap.size w wa) := by unfold Hid; rw [hwa]; exact ((Below.refl _ _).alloc (Nat.le_refl _) _).alloc (by simp) _
  have HZ : Hid (wa.heap.size = w.heap.size + 1 + 1) := by unfold Hid; rw [hwa]; simp
  have HB4 : Hid (Blk wa w.heap.size 34 #[.slice none 0 0]) := by unfold Hid; rw [hwa]; exact (Blk.new _ _ _).alloc _
  have HB5 : Hid (Blk wa (w.heap.size + 1) 4 #[.bool false]) := by
    unfold Hid
    rw [hwa]
    have h9 := Blk.new (w.alloc (.cells #[.slice none 0 0] 34)) 4 #[.bool false]
    rw [hz1] at h9
    exact h9
  have HS := Lib.hid (src1_any id (h.below (by have := HB.out; exact this)) hl hs)
  clear h hl hs hz1
  unfold srcV
  go_enter_defers Try.func126, Try.ntmps126
  go_wp2_with fail
  rw [← hwa]
  refine HS.out.mono ?_
  rintro e w2 ⟨A, n, c, t, rfl, hb2, hcase⟩
  have HB2 := Lib.hid hb2
  have q1 := (HB4.out.below hb2 HB4.out.lt).cell 0
  have q2 := (HB4.out.below hb2 HB4.out.lt).frozen 0
  have q3 := (HB5.out.below hb2 HB5.out.lt).cell 0
  have q4 := (HB5.out.below hb2 HB5.out.lt).frozen 0
  have HC := Lib.hid hcase
  clear hb2 hcase hwa
  go_wp2_with fail
  obtain ⟨wz, hwz⟩ : ∃ W, W = ((w2.setCell ⟨w.heap.size, 0, none⟩ (.slice A n c)).setCell ⟨w.heap.size + 1, 0, none⟩ (.bool t)) := ⟨_, rfl⟩
  have HBZ4 : Hid (Blk wz w.heap.size 34 #[.slice A n c]) := by
    unfold Hid
    rw [hwz]
    exact ((HB4.out.below HB2.out HB4.out.lt).set_ 0 (.slice A n c)).far (by show w.heap.size ≠ w.heap.size + 1; omega) _
  have HBZ5 : Hid (Blk wz (w.heap.size + 1) 4 #[.bool t]) := by
    unfold Hid
    rw [hwz]
    exact ((HB5.out.below HB2.out HB5.out.lt).far (by show w.heap.size + 1 ≠ w.heap.size; omega) _).set_ 0 (.bool t)
  have HBZ : Hid (Below w.heap.size w wz) := by
    unfold Hid
    rw [hwz]
    exact ((HB.out.trans (HB2.out.mono HB.out.size)).setCell (by show w.heap.size ≤ w.heap.size; omega) _).setCell (by show w.heap.size ≤ w.heap.size + 1; omega) _
  have HCZ : Hid ((srcP l lie id.toList = none ∧ t = false ∧ A = none ∧ n = 0 ∧ c = 0) ∨ ∃ x, srcP l lie id.toList = some x ∧ t = true ∧ x.length = n ∧ Own wz w.heap.size (.slice A n c) x) := by
    rcases HC.out with h | ⟨x, h1, h2, h3, h4⟩
    · exact .inl h
    · refine .inr ⟨x, h1, h2, h3, ?_⟩
      rw [hwz]
      have hz := HZ.out
      exact Own.based ((h4.farSet (by show w.heap.size < wa.heap.size; omega) _).farSet (by show w.heap.size + 1 < wa.heap.size; omega) _) (by omega)
  rw [← hwz]
  have r1 := HBZ4.out.cell 0
  have r2 := HBZ5.out.cell 0
  clear hwz q1 q2 q3 q4
  refine leaves_cons (f := 143) (args := #[.pointer (some ⟨w.heap.size, 0, none⟩), .pointer (some ⟨w.heap.size + 1, 0, none⟩)]) (by simp) (by simp [go_sem]) ?_
  refine (ask1_idle _ _ _).mono ?_
  rintro e u' w'' ⟨rfl, rfl, rfl⟩
  replace r1 : w''.cell? ⟨w.heap.size, 0, none⟩ = some (.slice A n c) := r1
  replace r2 : w''.cell? ⟨w.heap.size + 1, 0, none⟩ = some (.bool t) := r2
  simp [Leaves, settle, results, Try.results126, go_sem, r1, r2]
  exact ⟨A, n, c, t, rfl, HBZ.out, HCZ.out⟩
/-- What look answers: a page: is it an object, what does it name. -/
def PageP (base : List UInt8 → Option (List UInt8)) (id : ByteArray) (w : World) (e : Ending) (w' : World) : Prop :=
  ∃ A n c, e = .returned (.agg #[.bool (isP base id), .slice A n c]) ∧ Below w.heap.size w w' ∧ OwnV 9 w' w.heap.size (.slice A n c) ((nxP base id).map sv)
set_option maxRecDepth 100000 in
set_option maxHeartbeats 1600000 in
theorem look_any {p1 p2 p3 : Nat} {l : List (List UInt8)} {lie : Bool} {w : World} (id : ByteArray) (h : SrcX w p1 p2 p3 l lie) (hl : l.length ≤ 1000000) (hs : ∀ x ∈ l, x.length ≤ 1000000) :
    Calls Try.prog 99 #[srcV p1 p2 p3, .string id] w (PageP (srcP l lie) id w) := by
  have b0 : Below w.heap.size w (w.alloc (.cells #[.bool false, .slice none 0 0] 116)) := (Below.refl _ _).alloc (Nat.le_refl _) _
  obtain ⟨wa, hwa⟩ : ∃ W, W = w.alloc (.cells #[.bool false, .slice none 0 0] 116) := ⟨_, rfl⟩
  rw [← hwa] at b0
  have HB := Lib.hid b0
  have HZ : Hid (wa.heap.size = w.heap.size + 1) := by unfold Hid; rw [hwa]; simp
  have HBP : Hid (Blk wa w.heap.size 116 #[.bool false, .slice none 0 0]) := by unfold Hid; rw [hwa]; exact Blk.new _ _ _
  have HA := Lib.hid (ask_any id (h.below (by have := HB.out; exact this)) hl hs)
  have HSL := Lib.hid hs
  obtain ⟨sv0, hsv⟩ : ∃ v, v = srcV p1 p2 p3 := ⟨_, rfl⟩
  rw [← hsv] at HA ⊢
  clear h hl hs b0 hsv
  go_enter Try.func99, Try.ntmps99
  go_wp2_with fail
  rw [← hwa]
  clear hwa
  refine HA.out.mono ?_
  rintro e w2 ⟨A, n, c, t, rfl, hb2, hcase⟩
  have HB2 := Lib.hid (HB.out.trans (hb2.mono HB.out.size))
  have HP2 := Lib.hid (HBP.out.below hb2 HBP.out.lt)
  have HC := Lib.hid hcase
  have HZ2 : Hid (w.heap.size + 1 ≤ w2.heap.size) := by unfold Hid; have := hb2.size; have := HZ.out; omega
  clear hb2
  have c0 := HP2.out.cell 0
  have c1 := HP2.out.cell 1
  have f0 := HP2.out.frozen 0
  have f1 := HP2.out.frozen 1
  cases t with
  | false =>
    have HN : Hid (objP (srcP l lie) id.toList = none) := by
      rcases HC.out with ⟨h1, _⟩ | ⟨x, _, h2, _⟩
      · exact objP_none h1
      · cases h2
    clear c0 c1 f0 f1
    obtain ⟨c0, c1, f0, f1⟩ : w2.cell? ⟨w.heap.size, 0, none⟩ = some (.bool false) ∧ w2.cell? ⟨w.heap.size, 1, none⟩ = some (.slice none 0 0) ∧ w2.frozen? ⟨w.heap.size, 0, none⟩ = false ∧ w2.frozen? ⟨w.heap.size, 1, none⟩ = false := ⟨HP2.out.cell 0, HP2.out.cell 1, HP2.out.frozen 0, HP2.out.frozen 1⟩
    go_wp2_with fail
    obtain ⟨wz, hwz⟩ : ∃ X, X = ((w2.setCell ⟨w.heap.size, 0, none⟩ (.bool false)).setCell ⟨w.heap.size, 1, none⟩ (.slice none 0 0)) := ⟨_, rfl⟩
    rw [← hwz]
    have HBZ : Hid (Blk wz w.heap.size 116 #[.bool false, .slice none 0 0]) := by
      unfold Hid
      rw [hwz]
      exact (HP2.out.set_ 0 (.bool false)).set_ 1 (.slice none 0 0)
    have HBE : Hid (Below w.heap.size w wz) := by
      unfold Hid
      rw [hwz]
      exact (HB2.out.setCell (Nat.le_refl _) _).setCell (Nat.le_refl _) _
    clear hwz c0 c1 f0 f1
    obtain ⟨q0, q1⟩ : wz.cell? ⟨w.heap.size, 0, none⟩ = some (.bool false) ∧ wz.cell? ⟨w.heap.size, 1, none⟩ = some (.slice none 0 0) := ⟨HBZ.out.cell 0, HBZ.out.cell 1⟩
    refine bodyPost_ret (v := .agg #[.bool false, .slice none 0 0]) (by simp [results, Try.results99, go_sem, q0, q1]) rfl ?_
    refine ⟨none, 0, 0, ?_, HBE.out, ?_⟩
    · unfold isP; rw [HN.out]; rfl
    · unfold nxP; rw [HN.out]; exact OwnV.nil_ _ _
  | true =>
    obtain ⟨x, hx1, _, hx2, hx3⟩ : ∃ x, srcP l lie id.toList = some x ∧ (true : Bool) = true ∧ x.length = n ∧ Own w2 wa.heap.size (.slice A n c) x := by
      rcases HC.out with ⟨_, h1, _⟩ | h
      · cases h1
      · exact h
    have HX1 := Lib.hid hx1
    have HXS : Hid (x.length ≤ 1000000) := HSL.out x (srcP_mem hx1)
    have HXO := Lib.hid hx3.sl
    clear hx1 hx2 hx3 c0 c1 f0 f1
    go_wp2_with fail
    refine (decode_any _ x w2 HXO.out HXS.out).mono ?_
    rintro e w3 ⟨v, k, rfl, hd, hb3⟩
    have HP3 := Lib.hid (HP2.out.below hb3 HP2.out.lt)
    have HB3 := Lib.hid (HB2.out.trans (hb3.mono (by have := HZ2.out; omega)))
    have HZ3 : Hid (w.heap.size + 1 ≤ w3.heap.size) := by unfold Hid; have := hb3.size; have := HZ2.out; omega
    cases hdb : decB x with
    | false =>
      have HN : Hid (objP (srcP l lie) id.toList = none) := by unfold Hid; rw [objP_some HX1.out, hdb]; rfl
      have hk : (k != 0) = true := by
        rcases Classical.em (x = []) with e | e
        · rw [hd.short e]; rfl
        · rw [hd.form e hdb]; rfl
      obtain ⟨A1, n1, c1, A2, n2, c2, A3, n3, c3, rfl, _⟩ := hd.no hdb
      clear hd hdb hb3
      obtain ⟨wb, hwb⟩ : ∃ X, X = w3.alloc (.cells #[.int .i64 (objK 0).kind, .slice A1 n1 c1, .slice A2 n2 c2, .string (str (objK 0).tree), .slice A3 n3 c3, .int .i64 (objK 0).stamp, .int .i64 (objK 0).author, .string (str (objK 0).msg)] 72) := ⟨_, rfl⟩
      have HPB : Hid (Blk wb w.heap.size 116 #[.bool false, .slice none 0 0]) := by unfold Hid; rw [hwb]; exact HP3.out.alloc _
      have HBB : Hid (Below w.heap.size w wb) := by unfold Hid; rw [hwb]; exact HB3.out.alloc HB3.out.size _
      obtain ⟨c0, c1', f0, f1⟩ : wb.cell? ⟨w.heap.size, 0, none⟩ = some (.bool false) ∧ wb.cell? ⟨w.heap.size, 1, none⟩ = some (.slice none 0 0) ∧ wb.frozen? ⟨w.heap.size, 0, none⟩ = false ∧ wb.frozen? ⟨w.heap.size, 1, none⟩ = false := ⟨HPB.out.cell 0, HPB.out.cell 1, HPB.out.frozen 0, HPB.out.frozen 1⟩
      rw [hwb] at c0 c1' f0 f1
      go_wp2_with fail
      rw [← hwb]
      obtain ⟨wz, hwz⟩ : ∃ X, X = ((wb.setCell ⟨w.heap.size, 0, none⟩ (.bool false)).setCell ⟨w.heap.size, 1, none⟩ (.slice none 0 0)) := ⟨_, rfl⟩
      rw [← hwz]
      have HBZ : Hid (Blk wz w.heap.size 116 #[.bool false, .slice none 0 0]) := by
        unfold Hid
        rw [hwz]
        exact (HPB.out.set_ 0 (.bool false)).set_ 1 (.slice none 0 0)
      have HBE : Hid (Below w.heap.size w wz) := by
        unfold Hid
        rw [hwz]
        exact (HBB.out.setCell (Nat.le_refl _) _).setCell (Nat.le_refl _) _
      clear hwz c0 c1' f0 f1
      obtain ⟨q0, q1⟩ : wz.cell? ⟨w.heap.size, 0, none⟩ = some (.bool false) ∧ wz.cell? ⟨w.heap.size, 1, none⟩ = some (.slice none 0 0) := ⟨HBZ.out.cell 0, HBZ.out.cell 1⟩
      refine bodyPost_ret (v := .agg #[.bool false, .slice none 0 0]) (by simp [results, Try.results99, go_sem, q0, q1]) rfl ?_
      refine ⟨none, 0, 0, ?_, HBE.out, ?_⟩
      · unfold isP; rw [HN.out]; rfl
      · unfold nxP; rw [HN.out]; exact OwnV.nil_ _ _
    | true =>
      have HN : Hid (objP (srcP l lie) id.toList = some (objR x).1) := by unfold Hid; rw [objP_some HX1.out, hdb]; rfl
      have HMF := Lib.hid (may_few (decB_may hdb))
      obtain ⟨hk0, ho⟩ := hd.yes hdb
      subst hk0
      have hov := ho.obV
      obtain ⟨A1, n1, c1, A2, n2, c2, A3, n3, c3, rfl, _⟩ := ho
      obtain ⟨o, hoe⟩ : ∃ o, (objR x).1 = o := ⟨_, rfl⟩
      rw [hoe] at HN HMF hov ⊢
      have HOV := Lib.hid hov
      clear hd hdb hb3 hov hoe
      obtain ⟨wb, hwb⟩ : ∃ X, X = w3.alloc (.cells #[.int .i64 o.kind, .slice A1 n1 c1, .slice A2 n2 c2, .string (str o.tree), .slice A3 n3 c3, .int .i64 o.stamp, .int .i64 o.author, .string (str o.msg)] 72) := ⟨_, rfl⟩
      have HPB : Hid (Blk wb w.heap.size 116 #[.bool false, .slice none 0 0]) := by unfold Hid; rw [hwb]; exact HP3.out.alloc _
      have HBB : Hid (Below w.heap.size w wb) := by unfold Hid; rw [hwb]; exact HB3.out.alloc HB3.out.size _
      have HOB : Hid (ObV wb (.agg #[.int .i64 o.kind, .slice A1 n1 c1, .slice A2 n2 c2, .string (str o.tree), .slice A3 n3 c3, .int .i64 o.stamp, .int .i64 o.author, .string (str o.msg)]) o) := by unfold Hid; rw [hwb]; exact HOV.out.below ((Below.refl _ _).alloc (Nat.le_refl _) _)
      have HZB : Hid (w.heap.size + 1 ≤ wb.heap.size) := by unfold Hid; rw [hwb]; have := HZ3.out; simp; omega
      go_wp2_with fail
      rw [← hwb]
      refine (refs_any _ o wb HOB.out HMF.out.1 HMF.out.2).mono ?_
      rintro e w4 ⟨v4, rfl, ho4, hb4⟩
      obtain ⟨A4, c4, rfl, _, _⟩ := ho4.length
      have HP4 := Lib.hid (HPB.out.below hb4 HPB.out.lt)
      have HB4 := Lib.hid (HBB.out.trans (hb4.mono HBB.out.size))
      have HO4 := Lib.hid (ho4.base (Nat.le_trans (Nat.le_succ _) HZB.out))
      have HO5 := Lib.hid ho4
      obtain ⟨m4, hm4⟩ : ∃ m, (((refsL o).map str).map sv).length = m := ⟨_, rfl⟩
      rw [hm4] at HO4 HO5 ⊢
      clear ho4 hb4 hwb hm4
      obtain ⟨c0, c1', f0, f1⟩ : w4.cell? ⟨w.heap.size, 0, none⟩ = some (.bool false) ∧ w4.cell? ⟨w.heap.size, 1, none⟩ = some (.slice none 0 0) ∧ w4.frozen? ⟨w.heap.size, 0, none⟩ = false ∧ w4.frozen? ⟨w.heap.size, 1, none⟩ = false := ⟨HP4.out.cell 0, HP4.out.cell 1, HP4.out.frozen 0, HP4.out.frozen 1⟩
      go_wp2_with fail
      obtain ⟨wz, hwz⟩ : ∃ X, X = ((w4.setCell ⟨w.heap.size, 0, none⟩ (.bool true)).setCell ⟨w.heap.size, 1, none⟩ (.slice A4 m4 c4)) := ⟨_, rfl⟩
      rw [← hwz]
      have HBZ : Hid (Blk wz w.heap.size 116 #[.bool true, .slice A4 m4 c4]) := by
        unfold Hid
        rw [hwz]
        exact (HP4.out.set_ 0 (.bool true)).set_ 1 (.slice A4 m4 c4)
      have HBE : Hid (Below w.heap.size w wz) := by
        unfold Hid
        rw [hwz]
        exact (HB4.out.setCell (Nat.le_refl _) _).setCell (Nat.le_refl _) _
      have HOZ : Hid (OwnV 9 wz w.heap.size (.slice A4 m4 c4) (((refsL o).map str).map sv)) := by
        unfold Hid
        rw [hwz]
        have hne : (Value.slice A4 m4 c4).ownBlock ≠ some w.heap.size := own_blk_ne HO4.out HP4.out (by decide)
        exact (HO4.out.apart hne _).apart hne _
      clear hwz c0 c1' f0 f1
      obtain ⟨q0, q1⟩ : wz.cell? ⟨w.heap.size, 0, none⟩ = some (.bool true) ∧ wz.cell? ⟨w.heap.size, 1, none⟩ = some (.slice A4 m4 c4) := ⟨HBZ.out.cell 0, HBZ.out.cell 1⟩
      refine bodyPost_ret (v := .agg #[.bool true, .slice A4 m4 c4]) (by simp [results, Try.results99, go_sem, q0, q1]) rfl ?_
      refine ⟨A4, m4, c4, ?_, HBE.out, ?_⟩
      · unfold isP; rw [HN.out]; rfl
      · unfold nxP; rw [HN.out]; exact HOZ.out
end Go.Proofs.Yteffiedolcjjlaa.Ob
