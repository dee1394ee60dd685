/- Texts put together: Gr1. -/
import Derived.Test.YtecpedecgcaeoaaQg12
import Derived.Test.YtecpedecgcaeoaaQg14
import Derived.Test.YtecpedecgcaeoaaQg27
import Derived.Test.YtecpedecgcaeoaaQg28
/- The document's Graph: Ancestors. -/
set_option linter.unusedVariables false
set_option linter.unusedSimpArgs false
namespace Go.Proofs.Ytecpedecgcaeoaa.Tx
open Go.RowKit Go.Proofs.Ytecpedecgcaeoaa.Sh

/-- Marks, as numbers. -/
def mk01 (b : Bool) : Value := .int .i64 (if b then 1 else 0)
def BlkN (w : World) (g : Nat) (ms : List Bool) : Prop := Blk w g 3 (ms.map mk01).toArray
theorem BlkN.made (w : World) (k : Nat) : BlkN (w.alloc (.cells (madeCells #[.int .i64 0] k) 3)) w.heap.size (List.replicate k false) := by
  have h := Blk.new w 3 (madeCells #[.int .i64 0] k)
  have e : (madeCells #[.int .i64 0] k) = ((List.replicate k false).map mk01).toArray := by
    apply Array.ext'
    rw [toList_madeCells_one, List.toList_toArray, List.map_replicate]
    rfl
  unfold BlkN
  rw [← e]
  exact h
theorem BlkN.cell {w : World} {g : Nat} {ms : List Bool} (h : BlkN w g ms) (i : Nat) (b : Bool) (hi : ms[i]? = some b) : w.cell? ⟨g, i, none⟩ = some (mk01 b) := by
  rw [Blk.cell h, List.getElem?_toArray, List.getElem?_map, hi]
  rfl
theorem BlkN.frozen {w : World} {g : Nat} {ms : List Bool} (h : BlkN w g ms) (i : Nat) : w.frozen? ⟨g, i, none⟩ = false := Blk.frozen h i
theorem BlkN.set {w : World} {g : Nat} {ms : List Bool} (h : BlkN w g ms) (i : Nat) : BlkN (w.setCell ⟨g, i, none⟩ (.int .i64 1)) g (ms.set i true) := by
  have := Blk.set_ h i (.int .i64 1)
  unfold BlkN
  rw [List.map_set, ← List.setIfInBounds_toArray]
  exact this
theorem BlkN.below {w w' : World} {g B : Nat} {ms : List Bool} (h : BlkN w g ms) (hb : Below B w w') (hg : g < B) : BlkN w' g ms := Blk.below h hb hg
theorem BlkN.alloc {w : World} {g : Nat} {ms : List Bool} (h : BlkN w g ms) (o : Obj) : BlkN (w.alloc o) g ms := Blk.alloc h o
theorem gmake_ints (k : Nat) (hk : k ≤ 2000000) (w : World) : (Instr.makeSlice 31 (.int .i64 (k : Int)) (.int .i64 (k : Int))).run Try.prog w = .ok (.slice (some ⟨w.heap.size, 0, none⟩) k k) (w.alloc (.cells (madeCells #[.int .i64 0] k) 3)) := by
  obtain ⟨i0, hi, hz0, hz1, hz2⟩ := info_parts info_int
  have hr := run_make (P := Try.prog) w 31 3 i0 (.int .i64 0) Try.underlying31 hi hz0 .i64 .i64 k k (by omega) (by omega) (by rw [hz2]; omega) (by omega)
  rw [hz1] at hr
  simpa [Value.cells] using hr
/-- append of a text: what lies elsewhere, of other elements, stays. -/
theorem append_one {ops : Array Oper} {rest : List Oper} {o : Oper} {a : Act} {Q : Exit → Act → World → Prop} (hgd : o.guard = none) (s x : Operand)
    (ho : o.op = .call { callee := .builtin .append, args := #[s, x], argTypes := #[23, 23] }) (w : World) (B : Nat) (v : Value) (ts : List ByteArray) (hs : a.eval s = v) (hown : OwnV 9 w B v (ts.map sv))
    (u : ByteArray) (hx : a.eval x = .slice (some ⟨w.heap.size, 0, none⟩) 1 1) (hsmall : ts.length + 1 ≤ 2000000) (hB : B ≤ w.heap.size)
    (h : ∀ v' w', OwnV 9 w' B v' ((ts ++ [u]).map sv) → Below B w w' → (∀ (g : Nat) (cs : Array Value) (E : TypeId), E ≠ 9 → Blk w g E cs → Blk w' g E cs) → wpList Try.prog ops Q rest (a.put o.dst v') w') : wpList Try.prog ops Q (o :: rest) a (w.alloc (.cells #[.string u] 9)) := by
  obtain ⟨i0, hi, hz0, hz1, hz2⟩ := info_parts info_str
  obtain ⟨w2, hw2⟩ : ∃ W, W = w.alloc (.cells #[.string u] 9) := ⟨_, rfl⟩
  have hg2 : Blk w2 w.heap.size 9 #[.string u] := by rw [hw2]; exact heap_alloc_new w _
  have hown2 : OwnV 9 w2 B v (ts.map sv) := by rw [hw2]; exact hown.alloc _
  have hb2 : Below B w w2 := by rw [hw2]; exact (Below.refl _ _).alloc hB _
  have hkp : ∀ (g : Nat) (cs : Array Value) (E : TypeId), Blk w g E cs → Blk w2 g E cs := fun g cs E hg => by rw [hw2]; exact hg.alloc _
  have hsz : w2.heap.size = w.heap.size + 1 := by rw [hw2]; simp
  rw [← hw2]
  clear hw2
  have hr : Reads w2 w2.heap.size 1 (some ⟨w.heap.size, 0, none⟩) 1 ([u].map sv) := by
    refine ⟨rfl, fun _ => ⟨_, rfl, hg2.lt, fun j v hv => ?_⟩⟩
    rw [Addr.add_mid, Nat.zero_add, hg2.cell j, ← hv]
    simp [sv]
  have hown' : w2.ownsRow B 9 1 v ts.length (ts.map sv) := by have := hown2; unfold OwnV at this; rwa [List.length_map] at this
  refine wpList_append_any w2 hgd s x 23 ho B 9 i0 (.string ⟨#[]⟩) 1 16 Try.underlying23 hi hz0 hz1 hz2 rfl (by decide) v ts.length _ hs hown' w2.heap.size (some ⟨w.heap.size, 0, none⟩) 1 1 _ hx hr (sv_one [u]) (by unfold maxLen; omega) (by omega) (by omega) ?_
  intro v' w' h1 h2 _
  refine h v' w' ?_ (hb2.trans ((Below.refl _ _).grown h2 (by omega) (fun k hk => (hown'.lt k hk).1))) (fun g cs E hE hg => (hkp g cs E hg).grown h2 (fun e => ?_))
  · unfold OwnV
    rw [List.length_map, List.length_append, List.map_append]
    exact h1
  · rcases hown2.blk with ⟨rfl, _⟩ | ⟨g', c', cur', rfl, _, _, hg', _⟩
    · simp [Value.ownBlock] at e
    · have e' : g = g' := by simpa [Value.ownBlock] using e
      subst e'
      exact Blk.ne_ (hkp _ _ _ hg) hg' hE rfl
theorem gtext_cell {w : World} {A : Option Addr} {n c : Nat} {xs : List ByteArray} (h : SlV w (.slice A n c) (xs.map sv)) (k : Nat) (x : ByteArray) (hk : xs[k]? = some x) : ∃ ad, A = some ad ∧ w.cell? (ad.add k) = some (.string x) := by
  obtain ⟨A', c', he, _, _, hR⟩ := h.len
  injection he with e1 e2 e3
  subst e1
  rw [List.length_map] at hR
  exact reads_at hR k _ (by rw [List.getElem?_map, hk]; rfl)
theorem pls_next {G : GR} {xs : List ByteArray} {i : Nat} {x : ByteArray} (h : xs[i]? = some x) : plsL G (xs.take (i + 1)) = plsL G (xs.take i) ++ [pl G x] := by
  unfold plsL
  rw [List.take_add_one, h, List.map_append]
  rfl
/-- The second loop's state: all from k on are done. -/
theorem ms_no {par : Nat → List Nat} {n i : Nat} {S : List Nat} {ms : List Bool} (h : MS n (Qi par n S (i + 1)) ms) (hr : ¬ RS par S i) : MS n (Qi par n S i) ms := h.congr fun j _ => qi_no hr
theorem ms_yes {par : Nat → List Nat} {n i : Nat} {S : List Nat} {ms : List Bool} (hi : i < n) (h : MS n (fun j => Qi par n S (i + 1) j ∨ j ∈ par i) ms) (hr : RS par S i) : MS n (Qi par n S i) ms := h.congr fun j _ => qi_yes hi hr
set_option maxRecDepth 100000 in
set_option maxHeartbeats 3200000 in
theorem rganc_any {w : World} {g : Nat} {G : GR} (v : Value) (xs : List ByteArray) (h : RG w g G) (hw : GW G) (hl : G.length ≤ 2000) (hv : SlV w v (xs.map sv)) (hn : xs.length ≤ 2000) :
    Calls Try.prog 20 #[.pointer (some ⟨g, 0, none⟩), v] w (AskPost w (allG G xs) (ancT G xs)) := by
  have HG := Lib.hid h
  have HGW := Lib.hid hw
  have HV := Lib.hid hv
  obtain ⟨v0, y0, hs0⟩ := h.c0
  obtain ⟨A0, c0, rfl, _, _, _⟩ := hs0
  rw [List.length_map] at y0
  obtain ⟨Ap, cp, y1, hpar⟩ := h.c1
  obtain ⟨A, c, rfl, hlc, hcm, _⟩ := hv.len
  rw [List.length_map] at HV hlc ⊢
  unfold maxLen at hcm
  unfold AskPost
  obtain ⟨ok, hok⟩ : ∃ ok, allG G xs = ok := ⟨_, rfl⟩
  rw [hok]
  have HOK := Lib.hid hok
  clear hok
  obtain ⟨n, hnn⟩ : ∃ n, G.length = n := ⟨_, rfl⟩
  obtain ⟨m, hm⟩ : ∃ m, xs.length = m := ⟨_, rfl⟩
  rw [hnn] at y0 y1 hl hpar
  rw [hm] at HV hlc hn ⊢
  have HN := Lib.hid hnn
  have HM := Lib.hid hm
  have HC := Lib.hid (fun W (hW : Below w.heap.size w W) => (⟨(hW.cell (World.block_lt_of_cell? w _ y0)).trans y0, (hW.cell (World.block_lt_of_cell? w _ y1)).trans y1⟩ : W.cell? ⟨g, 0, none⟩ = some (.slice A0 n c0) ∧ W.cell? ⟨g, 1, none⟩ = some (.slice Ap n cp)))
  have HPAR := Lib.hid (fun k (hk : k < n) => by
    obtain ⟨ad, vv, e, x, y⟩ := hpar k hk
    exact (⟨ad, vv, e, fun W hW => ⟨(hW.cell (World.block_lt_of_cell? w _ x)).trans x, y.below hW⟩⟩ : ∃ (ad : Addr) (vv : Value), Ap = some ad ∧ ∀ W, Below w.heap.size w W → W.cell? (ad.add k) = some vv ∧ SlV W vv (((parAt G k).map (idAt G)).map sv)))
  have HAT := Lib.hid (fun W (hW : Below w.heap.size w W) (s : ByteArray) => rat_any s (h.below hW) (by omega))
  have HHAS := Lib.hid (fun W (hW : Below w.heap.size w W) (s : ByteArray) => rghas_any s (h.below hW) (by omega))
  have hmk := gmake_ints n (by omega) w
  obtain ⟨w1, hw1⟩ : ∃ W, w.alloc (.cells (madeCells #[.int .i64 0] n) 3) = W := ⟨_, rfl⟩
  have hbn := BlkN.made w n
  obtain ⟨gm, hgm⟩ : ∃ x, w.heap.size = x := ⟨_, rfl⟩
  have hb1 : Below w.heap.size w w1 := by rw [← hw1]; exact (Below.refl _ _).alloc (Nat.le_refl _) _
  rw [hw1, hgm] at hmk hbn
  have HBN := Lib.hid hbn
  have HB1 := Lib.hid hb1
  have HGM : Hid (w.heap.size = gm) := hgm
  clear h hw hv hpar hbn hb1 hw1 hnn hm hgm
  go_enter Try.func20, Try.ntmps20
  go_wp2_with fail
  clear hmk
  go_loopw [7] (fun x wr => ∃ (i : Nat) (ms : List Bool), i ≤ m ∧ x = .int .i64 (i : Int) ∧ (∀ s ∈ xs.take i, inG G s = true) ∧ MS n (fun j => j ∈ plsL G (xs.take i)) ms ∧ BlkN wr gm ms ∧ Below w.heap.size w wr) (fun x _ => m - (intOf x).toNat)
  case atStart => exact ⟨0, _, Nat.zero_le _, rfl, (fun s hs => by cases hs), (MS.none_ n).congr (fun j _ => ⟨fun h => h.elim, fun h => by cases h⟩), HBN.out, HB1.out⟩
  case round =>
    clear HBN HB1 y0 y1
    obtain ⟨i, ms, hi, rfl, hall, hms, hbm, hb⟩ := hrel
    have HALL := Lib.hid hall
    have HMS := Lib.hid hms
    have HBM := Lib.hid hbm
    have HB := Lib.hid hb
    clear hall hms hbm hb
    have z0 : (0 : Int) ≤ (i : Int) := by omega
    by_cases hlt : i < m
    · have z1 : (i : Int) < (m : Int) := by omega
      have hil : i < xs.length := by rw [HM.out]; exact hlt
      obtain ⟨x, hx⟩ : ∃ x, xs[i]? = some x := ⟨_, List.getElem?_eq_getElem hil⟩
      obtain ⟨ad, rfl, x0⟩ := gtext_cell (HV.out.below HB.out) i x hx
      have HX := Lib.hid hx
      clear hil hx
      cases hin : inG G x with
      | false =>
        have hno : allG G xs = false := by
          cases ha : allG G xs with
          | false => rfl
          | true => rw [all_iff.1 ha x (List.mem_of_getElem? HX.out)] at hin; cases hin
        have HH := Lib.hid (HHAS.out wr HB.out x)
        rw [hin] at HH
        have hok2 : ok = false := by rw [← HOK.out]; exact hno
        subst hok2
        go_wp2_with fail
        refine HH.out.mono ?_
        rintro e w2 ⟨rfl, rfl⟩
        go_wp2_with fail
        go_ret2
        exact ⟨HB.out, rfl⟩
      | true =>
        have HH := Lib.hid (HHAS.out wr HB.out x)
        have HA := Lib.hid (HAT.out wr HB.out x)
        rw [hin] at HH
        rw [atP_in hin] at HA
        have hpl := pl_lt hin
        rw [HN.out] at hpl
        have HPX := Lib.hid (pls_next (G := G) HX.out)
        obtain ⟨p, hp⟩ : ∃ p, pl G x = p := ⟨_, rfl⟩
        rw [hp] at HA hpl HPX
        have q0 : (0 : Int) ≤ (p : Int) := by omega
        have q1 : (p : Int) < (n : Int) := by omega
        obtain ⟨b, hb⟩ : ∃ b, ms[p]? = some b := ⟨_, List.getElem?_eq_getElem (by rw [HMS.out.len]; exact hpl)⟩
        have f0 := HBM.out.cell p b hb
        have f1 := HBM.out.frozen p
        have HBS := Lib.hid (HBM.out.set p)
        have HMS2 := Lib.hid (HMS.out.set p)
        have HIN := Lib.hid hin
        clear hb hp hin
        go_wp2_with fail
        refine HH.out.mono ?_
        rintro e w2 ⟨rfl, rfl⟩
        go_wp2_with fail
        refine HA.out.mono ?_
        rintro e w2 ⟨rfl, rfl⟩
        go_wp2_with fail
        go_roundw
        case rel =>
          refine ⟨i + 1, _, by omega, by go_num, fun s hs => ?_, HMS2.out.congr (fun j _ => ?_), HBS.out, HB.out.setCell (p := ⟨gm, p, none⟩) (by show w.heap.size ≤ gm; rw [HGM.out]; exact Nat.le_refl _) _⟩
          · rw [List.take_add_one, HX.out] at hs
            rcases List.mem_append.1 hs with hs | hs
            · exact HALL.out s hs
            · simp at hs
              rw [hs]
              exact HIN.out
          · rw [HPX.out, List.mem_append, List.mem_singleton]
        case measure => simp [intOf]; omega
    · have him : m = i := by omega
      subst him
      have hT : xs.take m = xs := List.take_of_length_le (by rw [HM.out]; exact Nat.le_refl _)
      have hyes : allG G xs = true := all_iff.2 (fun s hs => HALL.out s (by rw [hT]; exact hs))
      have hms := HMS.out
      rw [hT] at hms
      have hok2 : ok = true := by rw [← HOK.out]; exact hyes
      subst hok2
      obtain ⟨S, hS⟩ : ∃ S, plsL G xs = S := ⟨_, rfl⟩
      rw [hS] at hms
      have HSL : Hid (∀ f ∈ S, f < n) := by rw [← hS, ← HN.out]; exact pls_lt hyes
      have HS := Lib.hid hS
      have HMS1 : Hid (MS n (Qi (parAt G) n S n) ms) := hms.congr (fun j _ => qi_start.symm)
      obtain ⟨y0, y1⟩ := HC.out wr HB.out
      clear hT hyes hms hS HALL HMS
      obtain ⟨w3, hw3⟩ : ∃ x, x = wr := ⟨_, rfl⟩
      subst hw3
      go_wp2_with fail
      go_loopw [8, 9] (fun v8 x wr => ∃ (k : Nat) (ms : List Bool), k ≤ n ∧ x = .int .i64 ((k : Int) - 1) ∧ MS n (Qi (parAt G) n S k) ms ∧ BlkN wr gm ms ∧ OwnV 9 wr (gm + 1) v8 (((outL (parAt G) n S k).map (idAt G)).map sv) ∧ gm < wr.heap.size ∧ Below w.heap.size w wr) (fun _ x _ => (intOf x + 1).toNat)
      case atStart => exact ⟨n, ms, Nat.le_refl _, rfl, HMS1.out, HBM.out, by rw [out_start]; exact OwnV.nil_ _ _, HBM.out.lt, HB.out⟩
      case round =>
        clear HB HBM HMS1 y0 y1
        obtain ⟨k, ms, hk, rfl, hms, hbm, ho, hgl, hb⟩ := hrel
        have HMS := Lib.hid hms
        have HBM := Lib.hid hbm
        have HO := Lib.hid ho
        have HB := Lib.hid hb
        have HGL := Lib.hid hgl
        clear hms hbm ho hb hgl
        by_cases h0 : k = 0
        · subst h0
          have HU := Lib.hid (runiq_any u8 _ wr HO.out.slv (by rw [List.length_map]; have := out_len (par := parAt G) (n := n) (S := S) (i := 0); omega))
          have HE : Hid (uniqT ((outL (parAt G) n S 0).map (idAt G)) = ancT G xs) := by unfold Hid; rw [← HS.out, ← HN.out]; exact anc_of_out HGW.out
          rw [HE.out] at HU
          go_wp2_with fail
          refine HU.out.mono ?_
          rintro e w4 ⟨vu, rfl, hu, hb4⟩
          have HUO := Lib.hid (hu.base HB.out.size)
          have HB4 := Lib.hid (HB.out.trans (hb4.mono HB.out.size))
          clear hu hb4
          go_wp2_with fail
          go_ret2
          exact ⟨HB4.out, _, rfl, HUO.out⟩
        · obtain ⟨i, rfl⟩ : ∃ i, k = i + 1 := ⟨k - 1, by omega⟩
          rw [show (((i + 1 : Nat) : Int) - 1) = (i : Int) by omega]
          have z0 : (0 : Int) ≤ (i : Int) := by omega
          have z1 : (i : Int) < (n : Int) := by omega
          have hqi := qi_now (par := parAt G) (n := n) (i := i) HGW.out.down HSL.out
          obtain ⟨b, hbm⟩ : ∃ b, ms[i]? = some b := ⟨_, List.getElem?_eq_getElem (by rw [HMS.out.len]; omega)⟩
          have f0 := HBM.out.cell i b hbm
          have hbq := HMS.out.at_ i (by omega)
          rw [hbm] at hbq
          clear hbm
          cases b with
          | false =>
            have hnr : ¬ RS (parAt G) S i := fun hr => by have := hbq.2 (hqi.2 hr); cases this
            have HNEXT := Lib.hid (ms_no HMS.out hnr)
            have HOUT := Lib.hid (out_no (n := n) hnr)
            have f1 : wr.cell? ⟨gm, i, none⟩ = some (.int .i64 0) := f0
            clear f0 hnr hbq hqi
            go_wp2_with fail
            go_roundw
            case rel => exact ⟨i, ms, by omega, by go_num, HNEXT.out, HBM.out, by rw [HOUT.out]; exact HO.out, HGL.out, HB.out⟩
            case measure => simp [intOf]
          | true =>
            have hr : RS (parAt G) S i := hqi.1 (hbq.1 rfl)
            have HRS := Lib.hid hr
            have HOUT := Lib.hid (out_yes (par := parAt G) (n := n) (S := S) (by omega) hr)
            have f1 : wr.cell? ⟨gm, i, none⟩ = some (.int .i64 1) := f0
            obtain ⟨y0, y1⟩ := HC.out wr HB.out
            obtain ⟨id, hid⟩ : ∃ x, idAt G i = x := ⟨_, rfl⟩
            obtain ⟨ad0, hc0⟩ : ∃ ad, A0 = some ad ∧ wr.cell? (ad.add i) = some (.string id) := by
              obtain ⟨v0, yy, hs0⟩ := (HG.out.below HB.out).c0
              rw [y0] at yy
              injection yy with yy
              rw [← yy] at hs0
              have hs1 : SlV wr (.slice A0 n c0) ((G.map ND.id).map sv) := by rw [List.map_map]; exact hs0
              exact gtext_cell hs1 i id (by rw [List.getElem?_map]; obtain ⟨nd, hnd⟩ := node_at (G := G) (k := i) (by rw [HN.out]; omega); rw [hnd, ← hid, idAt_of hnd]; rfl)
            obtain ⟨rfl, x0⟩ := hc0
            obtain ⟨adp, vp, rfl, hpst⟩ := HPAR.out i (by omega)
            have HPST := Lib.hid hpst
            have hosm : ((outL (parAt G) n S (i + 1)).map (idAt G)).length + 1 ≤ 2000000 := by rw [List.length_map]; have := out_len (par := parAt G) (n := n) (S := S) (i := i + 1); omega
            have hgz := HGL.out
            have HIDE := Lib.hid hid
            obtain ⟨np, hnp⟩ : ∃ x, (parAt G i).length = x := ⟨_, rfl⟩
            have HNP := Lib.hid hnp
            obtain ⟨Aq, cq, rfl, hq1, hq2, _⟩ := (HPST.out wr HB.out).2.len
            simp only [List.length_map] at hq1 HPST
            rw [hnp] at hq1 HPST
            unfold maxLen at hq2
            have HAP := Lib.hid (fun p (hp : p ∈ parAt G i) => (⟨by have := HGW.out.down i p hp; omega, by rw [atP_in (in_id HGW.out (par_lt HGW.out hp)), pl_id HGW.out (par_lt HGW.out hp)]⟩ : p < n ∧ atP G (idAt G p) = (p : Int)))
            clear hnp
            clear f0 hr hbq hqi hpst hid
            go_wp2_with (at_builtin; refine append_one rfl (.tmp 53) (.tmp 61) rfl wr (gm + 1) u8 ((outL (parAt G) n S (i + 1)).map (idAt G)) rfl HO.out id rfl hosm (by omega) ?_; intro v4 w4 ho4 hb4 hk4; have HO4 := Lib.hid ho4; have HBM4 : Hid (BlkN w4 gm ms) := hk4 _ _ _ (by decide) HBM.out; have HB4 : Hid (Below w.heap.size w w4) := HB.out.trans (hb4.mono (show w.heap.size ≤ gm + 1 by rw [HGM.out]; exact Nat.le_succ _)); have HGL4 : Hid (gm < w4.heap.size) := Nat.lt_of_lt_of_le HGL.out hb4.size; clear ho4 hb4 hk4)
            go_loopw [10] (fun v10 wx => ∃ (t : Nat) (ms' : List Bool), t ≤ np ∧ v10 = .int .i64 (t : Int) ∧ MS n (fun j => Qi (parAt G) n S (i + 1) j ∨ j ∈ (parAt G i).take t) ms' ∧ BlkN wx gm ms' ∧ OwnV 9 wx (gm + 1) v4 ((((outL (parAt G) n S (i + 1)).map (idAt G)) ++ [id]).map sv) ∧ gm < wx.heap.size ∧ Below w.heap.size w wx) (fun v10 _ => np - (intOf v10).toNat)
            case atStart => exact ⟨0, ms, Nat.zero_le _, rfl, HMS.out.congr (fun j _ => ⟨.inl, fun h => h.elim (fun h => h) (fun h => by cases h)⟩), HBM4.out, HO4.out, HGL4.out, HB4.out⟩
            case round =>
              clear HBM HB HO HBM4 HB4 HO4 HGL HGL4 HMS y0 y1 x0 f1
              obtain ⟨t, ms', ht, rfl, hms, hbm, ho, hgl, hb⟩ := hrel
              have HMS := Lib.hid hms
              have HBM := Lib.hid hbm
              have HO := Lib.hid ho
              have HB := Lib.hid hb
              have HGL := Lib.hid hgl
              clear hms hbm ho hb hgl
              have q0 : (0 : Int) ≤ (t : Int) := by omega
              obtain ⟨y0, y1⟩ := HC.out wr HB.out
              obtain ⟨x0, hsv⟩ := HPST.out wr HB.out
              by_cases htn : t < np
              · have q1 : (t : Int) < (np : Int) := by omega
                have htl : t < (parAt G i).length := by rw [HNP.out]; exact htn
                obtain ⟨p, hp⟩ : ∃ p, (parAt G i)[t]? = some p := ⟨_, List.getElem?_eq_getElem htl⟩
                obtain ⟨hpn, hap⟩ := HAP.out p (List.mem_of_getElem? hp)
                obtain ⟨adq, rfl, x1⟩ := gtext_cell hsv t (idAt G p) (by rw [List.getElem?_map, hp]; rfl)
                have HA := Lib.hid (HAT.out wr HB.out (idAt G p))
                rw [hap] at HA
                have q2 : (0 : Int) ≤ (p : Int) := by omega
                have q3 : (p : Int) < (n : Int) := by omega
                obtain ⟨b, hb⟩ : ∃ b, ms'[p]? = some b := ⟨_, List.getElem?_eq_getElem (by rw [HMS.out.len]; exact hpn)⟩
                have f0 := HBM.out.cell p b hb
                have f1 := HBM.out.frozen p
                have HBS := Lib.hid (HBM.out.set p)
                have HMS2 := Lib.hid (HMS.out.set p)
                have HTK : Hid ((parAt G i).take (t + 1) = (parAt G i).take t ++ [p]) := by unfold Hid; rw [List.take_add_one, hp]; rfl
                have HOS := Lib.hid (HO.out.apart (p := ⟨gm, p, none⟩) (fun e => by have := (HO.out.lt _ e).1; exact absurd this (by show ¬ gm + 1 ≤ gm; omega)) (.int .i64 1))
                obtain ⟨s, hs⟩ : ∃ s, idAt G p = s := ⟨_, rfl⟩
                rw [hs] at HA x1
                clear htl hp hap hb hsv hs
                go_wp2_with fail
                refine HA.out.mono ?_
                rintro e w2 ⟨rfl, rfl⟩
                go_wp2_with fail
                go_roundw
                case rel =>
                  refine ⟨t + 1, _, by omega, by go_num, HMS2.out.congr (fun j _ => ?_), HBS.out, HOS.out, by simpa using HGL.out, HB.out.setCell (p := ⟨gm, p, none⟩) (by show w.heap.size ≤ gm; rw [HGM.out]; exact Nat.le_refl _) _⟩
                  rw [HTK.out, List.mem_append, List.mem_singleton]
                  exact or_assoc
                case measure => simp [intOf]; omega
              · have hnt : np = t := by omega
                subst hnt
                have hT : (parAt G i).take np = parAt G i := List.take_of_length_le (by rw [HNP.out]; exact Nat.le_refl _)
                have hms := HMS.out
                rw [hT] at hms
                have HNEXT := Lib.hid (ms_yes (by omega) hms HRS.out)
                have HFO := HO
                clear hT hms hsv
                go_wp2_with fail
                go_roundw
                case rel => exact ⟨i, ms', by omega, by go_num, HNEXT.out, HBM.out, by rw [HOUT.out, List.map_append, List.map_cons, List.map_nil, HIDE.out]; exact HO.out, HGL.out, HB.out⟩
                case measure => simp [intOf]
end Go.Proofs.Ytecpedecgcaeoaa.Tx
