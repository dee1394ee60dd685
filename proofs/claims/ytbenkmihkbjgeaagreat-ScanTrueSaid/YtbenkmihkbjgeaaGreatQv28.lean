/- Texts put together: VShU1, VRf1, VHm0. -/
import Derived.Test.YtbenkmihkbjgeaaGreatQv27
import Derived.Test.YtbenkmihkbjgeaaGreatQv21
/- Unhex, Valid. -/
namespace Go.Proofs.YtbenkmihkbjgeaaGreat.Sh
open Go.RowKit
def dvv (c : UInt8) : UInt8 := (dv c).getD 0
def un2 (a b : UInt8) : UInt8 := UInt8.ofNat (16 * (dvv a).toNat + (dvv b).toNat)
def unhexN (cs : List UInt8) (k : Nat) : List UInt8 := (List.range k).map (fun i => un2 (cs.getD (2 * i) 0) (cs.getD (2 * i + 1) 0))
def unhexL (cs : List UInt8) : List UInt8 := unhexN cs (cs.length / 2)
theorem unhexN_next (cs : List UInt8) (k : Nat) : unhexN cs (k + 1) = unhexN cs k ++ [un2 (cs.getD (2 * k) 0) (cs.getD (2 * k + 1) 0)] := by
 unfold unhexN
 rw [List.range_succ, List.map_append]
 rfl
theorem unhexN_length (cs : List UInt8) (k : Nat) : (unhexN cs k).length = k := by unfold unhexN; simp
theorem unhexL_length (cs : List UInt8) : (unhexL cs).length = cs.length / 2 := unhexN_length _ _
theorem dv_lt (c v : UInt8) (h : dv c = some v) : v.toNat < 16 := by
 have hb := bi_lt c
 rcases dv_cases c with ⟨_, h2⟩ | ⟨h1, h1', h2⟩ | ⟨_, _, h2⟩ | ⟨h1, h1', h2⟩ | ⟨_, h2⟩
 all_goals rw [h] at h2
 all_goals first | (injection h2 with h2; rw [h2, UInt8.toNat_ofNat']; omega) | cases h2
theorem or_un2 (h l : UInt8) (hh : h.toNat < 16) (hl : l.toNat < 16) : bits .or .u8 (bi h * 16 % 256) (bi l) = bi (UInt8.ofNat (16 * h.toNat + l.toNat)) := by
 unfold bi
 have e : (h.toNat : Int) * 16 % 256 = ((16 * h.toNat : Nat) : Int) := by omega
 rw [e, u8_or_nat _ _ (by omega) (by omega), UInt8.toNat_ofNat', nat_join 4 (16 * h.toNat) l.toNat (by omega) (by omega)]
 omega
theorem dvv_of {c v : UInt8} (h : dv c = some v) : dvv c = v := by unfold dvv; rw [h]; rfl
def UnPost (w : World) (bs : List UInt8) (e : Ending) (w' : World) : Prop := ∃ v, e = .returned (.tuple #[v, .bool true]) ∧ Own w' w.heap.size v bs ∧ Below w.heap.size w w'
set_option maxRecDepth 100000 in
set_option maxHeartbeats 800000 in
theorem unhex_yes (cs : List UInt8) (w : World) (h : hexOk cs = true) (hl : cs.length ≤ 1000000) : Calls Tryz.prog 220 #[.string (str cs)] w (UnPost w (unhexL cs)) := by
 have hev := hexOk_even h
 have hsz := str_size cs
 have H := Lib.hid h
 obtain ⟨m, hm⟩ : ∃ m, cs.length = 2 * m := ⟨cs.length / 2, by omega⟩
 rw [hm] at hsz
 have hm2 : m ≤ 500000 := by omega
 have HL := Lib.hid hm
 clear h hm hev
 have e1 : (2 * (m : Int)) / 2 = (m : Int) := by omega
 have e2 : (2 * (m : Int)).tdiv 2 = (m : Int) := by rw [Int.tdiv_eq_ediv_of_nonneg (by omega)]; omega
 have hmk : ∀ w : World, (Instr.makeSlice 45 (.int .i64 0) (.int .i64 (m : Int))).run Tryz.prog w = .ok (.slice (some ⟨w.heap.size, 0, none⟩) 0 m) (w.alloc (.cells (madeCells #[.int .u8 0] m) 5)) := fun w => make_bytes m (by omega) w
 have hown := own_made w m (by unfold maxLen; omega)
 have HOWN := Lib.hid hown
 clear hown
 go_enter Tryz.func220, Tryz.ntmps220
 go_wp2_with fail
 refine (ishex_yes cs _ H.out hl).mono ?_
 rintro e w' ⟨rfl, rfl⟩
 go_wp2_with fail
 clear hmk
 go_loopw [4, 5] (fun v i wr => ∃ k : Nat, k ≤ m ∧ i = .int .i64 (2 * (k : Int)) ∧ Own wr w.heap.size v (unhexN cs k) ∧ Below w.heap.size w wr) (fun _ i _ => 2 * m - (intOf i).toNat)
 case atStart => exact ⟨0, by omega, rfl, HOWN.out, (Below.refl _ _).alloc (Nat.le_refl _) _⟩
 case round =>
  obtain ⟨k, hk, rfl, ho, hbw⟩ := hrel
  have hwz := hbw.size
  by_cases hlt : k < m
  ·have hidx1 : ∀ w : World, (Instr.index 9 (.string (str cs)) (.int .i64 (2 * (k : Int)))).run Tryz.prog w = .ok (.int .u8 (bi (cs.getD (2 * k) 0))) w := index_str cs (2 * k) (by rw [HL.out]; omega)
   have hidx2 : ∀ w : World, (Instr.index 9 (.string (str cs)) (.int .i64 (2 * (k : Int) + 1))).run Tryz.prog w = .ok (.int .u8 (bi (cs.getD (2 * k + 1) 0))) w := index_str cs (2 * k + 1) (by rw [HL.out]; omega)
   obtain ⟨v1, hv1⟩ := hexOk_at H.out (2 * k) (by rw [HL.out]; omega)
   obtain ⟨v2, hv2⟩ := hexOk_at H.out (2 * k + 1) (by rw [HL.out]; omega)
   have hnx := Lib.hid (unhexN_next cs k)
   generalize cs.getD (2 * k) 0 = x1 at *
   generalize cs.getD (2 * k + 1) 0 = x2 at *
   have hor := or_un2 v1 v2 (dv_lt _ _ hv1) (dv_lt _ _ hv2)
   have hu : Hid (UInt8.ofNat (16 * v1.toNat + v2.toNat) = un2 x1 x2) := by
    unfold Hid un2; rw [dvv_of hv1, dvv_of hv2]
   have HV1 := Lib.hid hv1
   have HV2 := Lib.hid hv2
   have hlen : (unhexN cs k).length + 1 ≤ 140737488355328 := by rw [unhexN_length]; omega
   generalize UInt8.ofNat (16 * v1.toNat + v2.toNat) = y at *
   clear hv1 hv2
   have HO := Lib.hid ho
   have HBW := Lib.hid hbw
   clear ho hbw
   go_wp2_with fail
   refine (dig_yes x1 v1 _ HV1.out).mono ?_
   rintro e w' ⟨rfl, rfl⟩
   go_wp2_with fail
   refine (dig_yes x2 v2 _ HV2.out).mono ?_
   rintro e w' ⟨rfl, rfl⟩
   go_wp2_with (at_builtin; refine append_byte rfl (.tmp 38) (.tmp 43) rfl wr w.heap.size u4 (unhexN cs k) rfl HO.out _ y rfl rfl hlen hwz ?_; intro v3 w3 ho3 hb3; have HO3 := Lib.hid ho3; have HB3 := Lib.hid hb3; clear ho3 hb3)
   refine ⟨⟨k + 1, by omega, by congr 1, ?_, HBW.out.trans HB3.out⟩, ?_⟩
   ·rw [hnx.out, ← hu.out]; exact HO3.out
   ·simp [intOf]; omega
  ·obtain rfl : k = m := by omega
   have ho' : Own wr w.heap.size u4 (unhexL cs) := by
    unfold unhexL
    rw [HL.out, show 2 * k / 2 = k from by omega]
    exact ho
   have HO := Lib.hid ho'
   have HBW := Lib.hid hbw
   clear ho ho' hbw
   go_wp2
   go_ret2
   exact ⟨u4, rfl, HO.out, HBW.out⟩
theorem valid_any (cs : List UInt8) (t : Bool) (ht : (cs.length == 64 && hexOk cs) = t) (w : World) (hl : cs.length ≤ 1000000) : Calls Tryz.prog 180 #[.string (str cs)] w fun e w' => e = .returned (.bool t) ∧ w = w' := by
 have hsz := str_size cs
 by_cases h64 : cs.length = 64
 ·rw [h64] at hsz
  rw [beq_iff_eq.2 h64, Bool.true_and] at ht
  have HT := Lib.hid ht
  clear ht h64
  go_enter Tryz.func180, Tryz.ntmps180
  go_wp2_with fail
  cases t with
  | false =>
   refine (ishex_no cs _ HT.out hl).mono ?_
   rintro e w' ⟨rfl, rfl⟩
   go_wp2_with fail
   go_ret
   exact ⟨rfl, rfl⟩
  | true =>
   refine (ishex_yes cs _ HT.out hl).mono ?_
   rintro e w' ⟨rfl, rfl⟩
   go_wp2_with fail
   go_ret
   exact ⟨rfl, rfl⟩
 ·rw [beq_eq_false_iff_ne.2 h64, Bool.false_and] at ht
  subst ht
  obtain ⟨l, hL⟩ : ∃ l, cs.length = l := ⟨_, rfl⟩
  rw [hL] at hsz h64
  have e1 : ((l : Int) == 64) = false := beq_eq_false_iff_ne.2 (by omega)
  clear hL
  go_enter Tryz.func180, Tryz.ntmps180
  go_wp2_with fail
  go_ret
  exact ⟨rfl, rfl⟩
/-! Plain: there and back. -/
theorem dv_hexd (n : UInt8) (h : n.toNat < 16) : dv (hexd n) = some n := by
 obtain ⟨m, hm, rfl⟩ : ∃ m, m < 16 ∧ n = UInt8.ofNat m := ⟨n.toNat, h, by simp⟩
 have key : ∀ m, m < 16 → dv (hexd (UInt8.ofNat m)) = some (UInt8.ofNat m) := by decide +kernel
 exact key m hm
theorem hexL_cons (x : UInt8) (r : List UInt8) : hexL (x :: r) = hexd (hi4 x) :: hexd (lo4 x) :: hexL r := rfl
theorem hexOk_hexL (bs : List UInt8) : hexOk (hexL bs) = true := by
 refine hexOk_of (by rw [hexL_length]; omega) ?_
 induction bs with
 | nil => intro k hk; cases hk
 | cons x r ih =>
  intro k hk
  rw [hexL_cons] at hk ⊢
  match k with
  | 0 => exact ⟨_, dv_hexd _ (hi4_lt x)⟩
  | 1 => exact ⟨_, dv_hexd _ (lo4_lt x)⟩
  | k + 2 => exact ih k (by simpa using hk)
end Go.Proofs.YtbenkmihkbjgeaaGreat.Sh
/- Package refs, as plain data. (No Go in it.) -/
set_option linter.unusedVariables false
set_option linter.unusedSimpArgs false
namespace Go.Proofs.YtbenkmihkbjgeaaGreat.Tx
open Go.RowKit Go.Proofs.YtbenkmihkbjgeaaGreat.Sh
def refP (n : List UInt8) : List UInt8 := 115 :: 47 :: 114 :: 47 :: n
def lockP (n : List UInt8) : List UInt8 := 115 :: 47 :: 108 :: 47 :: n
def validB (cs : List UInt8) : Bool := cs.length == 64 && hexOk cs
theorem valid_len {cs : List UInt8} (h : validB cs = true) : cs.length = 64 := by
 unfold validB at h
 simp at h
 exact h.1
def expE (c : CSt) (n old : List UInt8) : Int :=
 if redE c (refP n) = 7 then (if old = [] then 0 else 13)
 else if redE c (refP n) ≠ 0 then redE c (refP n)
 else if old = [] ∨ (redF c (refP n)).data ≠ old ++ [10] then 13 else 0
def prepE (c : CSt) (n old : List UInt8) : Int := if expE c n old = 0 then bgE (bgC c).c else expE c n old
def prepC (c : CSt) (n old : List UInt8) : CSt := if expE c n old = 0 then synC (bgC c).c else (bgC c).c
def slE (c : CSt) (n old : List UInt8) : Int :=
 if prepE c n old = 0 then
  (if movE (prepC c n old) (lockP n) (refP n) false = 0 then bgE (movC (prepC c n old) (lockP n) (refP n) false) else movE (prepC c n old) (lockP n) (refP n) false)
 else prepE c n old
def slC (c : CSt) (n old : List UInt8) : CSt :=
 if prepE c n old = 0 then
  (if movE (prepC c n old) (lockP n) (refP n) false = 0 then synC (movC (prepC c n old) (lockP n) (refP n) false) else movC (prepC c n old) (lockP n) (refP n) false)
 else remC (prepC c n old) (lockP n)
def setE (c : CSt) (n old new : List UInt8) : Int :=
 if nameB n = false then 6 else if validB new = false ∨ (old ≠ [] ∧ validB old = false) then 1
 else if crtE c (lockP n) 1 (new ++ [10]) true = 0 then slE (crtC c (lockP n) 1 (new ++ [10]) true) n old
 else if crtE c (lockP n) 1 (new ++ [10]) true = 8 then 13 else crtE c (lockP n) 1 (new ++ [10]) true
def setC (c : CSt) (n old new : List UInt8) : CSt :=
 if nameB n = false then c else if validB new = false ∨ (old ≠ [] ∧ validB old = false) then c
 else if crtE c (lockP n) 1 (new ++ [10]) true = 0 then slC (crtC c (lockP n) 1 (new ++ [10]) true) n old
 else crtC c (lockP n) 1 (new ++ [10]) true
def hinB (d : List UInt8) : Bool := [10].isSuffixOf d && validB (d.take (d.length - 1))
def hinV (d : List UInt8) : List UInt8 := if hinB d = true then d.take (d.length - 1) else []
def getE (c : CSt) (n : List UInt8) : Int :=
 if nameB n = false then 6 else if redE c (refP n) ≠ 0 then redE c (refP n) else if hinB (redF c (refP n)).data = false then 4 else 0
def getV (c : CSt) (n : List UInt8) : List UInt8 := if getE c n = 0 then hinV (redF c (refP n)).data else []
def getC (c : CSt) (n : List UInt8) : CSt := if nameB n = false then c else (bgC c).c
def delE (c : CSt) (n old : List UInt8) : Int :=
 if nameB n = false then 6 else if validB old = false then 1
 else if redE c (refP n) ≠ 0 then redE c (refP n) else if (redF c (refP n)).data ≠ old ++ [10] then 13
 else if remE (bgC c).c (refP n) = 0 then bgE (remC (bgC c).c (refP n)) else remE (bgC c).c (refP n)
def delC (c : CSt) (n old : List UInt8) : CSt :=
 if nameB n = false then c else if validB old = false then c
 else if redE c (refP n) ≠ 0 then (bgC c).c else if (redF c (refP n)).data ≠ old ++ [10] then (bgC c).c
 else if remE (bgC c).c (refP n) = 0 then synC (remC (bgC c).c (refP n)) else remC (bgC c).c (refP n)
def lastN (dir p : List UInt8) : List UInt8 := if (dir ++ [47]).isPrefixOf p then p.drop (dir.length + 1) else p
def nmsL (dir : List UInt8) (ps : List (List UInt8)) : List (List UInt8) := (ps.map (lastN dir)).filter nameB
def rlsE (c : CSt) (dir : List UInt8) : Int := lisE c dir
def rlsV (c : CSt) (dir : List UInt8) : List (List UInt8) := if lisE c dir = 0 then nmsL dir (lisO c dir) else []
def unlC : CSt → List (List UInt8) → CSt
 | c, [] => c
 | c, n :: l => if remE c (lockP n) = 0 then unlC (remC c (lockP n)) l else remC c (lockP n)
def unlE : CSt → List (List UInt8) → Int
 | _, [] => 0
 | c, n :: l => if remE c (lockP n) = 0 then unlE (remC c (lockP n)) l else remE c (lockP n)
end Go.Proofs.YtbenkmihkbjgeaaGreat.Tx
/- Package fsim as the program keeps it, as plain data: what holds of it whatever is called. (No Go in it.) -/
set_option linter.unusedVariables false
set_option linter.unusedSimpArgs false
namespace Go.Proofs.YtbenkmihkbjgeaaGreat.Tx
theorem path_ne {p : List UInt8} (h : pathB p = true) : p ≠ [] := by
 rintro rfl
 revert h
 decide
theorem gone_nil (R : List RowM) : goneM R [] = R := if_pos rfl
theorem gone_some (R : List RowM) {p : List UInt8} (h : p ≠ []) : goneM R p = withoutM R p := if_neg h
theorem under_nil (p : List UInt8) : underB p [] = false := by
 cases h : underB p [] with
 | false => rfl
 | true =>
  unfold underB at h
  simp only [Bool.and_eq_true] at h
  exact absurd rfl (path_ne h.1.1.1.2)
theorem may_of {R : List RowM} {p wo : List UInt8} (ho : Ord R) (hw : wo = [] ∨ peekB R wo = true) (h : mayC R p wo = true) : mayM (goneM R wo) p = true := by
 unfold mayC at h
 rw [Bool.and_eq_true] at h
 obtain ⟨h1, h2⟩ := h
 have h2 := of_decide_eq_true h2
 have hz : cntM (goneM R wo) p = 0 := by
  rcases hw with rfl | hw
  ·rw [under_nil, if_neg (by decide)] at h2
   rw [gone_nil]
   omega
  ·unfold peekB at hw
   obtain ⟨r, hr, rfl⟩ := find_some hw
   by_cases hwo : r.path = []
   ·rw [hwo, under_nil, if_neg (by decide)] at h2
    rw [hwo, gone_nil]
    omega
   ·rw [gone_some R hwo]
    have h3 := cnt_without ho hr p
    rw [count_parents] at h3
    by_cases hu : underB p r.path = true
    ·rw [if_pos hu] at h2 h3; omega
    ·rw [if_neg hu] at h2 h3; omega
 unfold mayM
 refine List.all_eq_true.2 fun r hr => ?_
 have hu1 := cnt_zero.1 hz r hr
 have hu2 : underB r.path p = false := by
  cases hu : underB r.path p with
  | false => rfl
  | true =>
   have hm := (under_iff _ _).1 hu
   have hb : blockedC R (parentsL p) wo = false := by simpa using h1
   unfold blockedC at hb
   have hb := List.any_eq_false.1 hb _ hm
   have hs : standsM R r.path = true := stands_iff.2 ⟨r, gone_mem hr, rfl⟩
   have hne : r.path ≠ wo := by
    intro e
    by_cases hwo : wo = []
    ·subst hwo
     have := (under_iff _ _).2 hm
     rw [e] at this
     unfold underB at this
     simp only [Bool.and_eq_true] at this
     exact absurd rfl (path_ne this.1.1.1.1)
    ·rw [gone_some R hwo] at hr
     exact (mem_without.1 hr).2 e
   rw [hs] at hb
   simp [hne] at hb
 rw [hu1, hu2]
 rfl
theorem peek_none' {R : List RowM} {p : List UInt8} (h : peekB R p = false) : peekF R p = ⟨0, [], 0⟩ := (peek_none (by rw [stands_find]; exact h)).1
theorem peek_at {R : List RowM} {p : List UInt8} (h : peekB R p = true) : (⟨p, peekF R p⟩ : RowM) ∈ R := by
 unfold peekB at h
 obtain ⟨i, hi⟩ := Option.isSome_iff_exists.1 h
 obtain ⟨r, hr, e⟩ := find_at hi
 have hm := List.mem_of_getElem? hr
 have : peekF R p = r.f := by
  unfold peekF
  rw [hi]
  show rowF R i = r.f
  unfold rowF
  rw [hr]
 rw [this, ← e]
 exact hm
theorem peek_yes {R : List RowM} {r : RowM} (h : r ∈ R) : peekB R r.path = true := by
 unfold peekB
 rw [← stands_find]
 exact stands_iff.2 ⟨r, h, rfl⟩
def ChOk (R : List RowM) (q : ChM) (t : Int) : Prop := q.gone = [] → q.path ≠ [] → pathB q.path = true ∧ (1 ≤ q.f.mode ∧ q.f.mode ≤ 3) ∧ q.f.data.length ≤ 20000 ∧ q.f.time ≤ t ∧ mayM R q.path = true
theorem ChOk.later {R : List RowM} {q : ChM} {t t' : Int} (h : ChOk R q t) (ht : t ≤ t') : ChOk R q t' := fun h1 h2 => by
 obtain ⟨a, b, c, d, e⟩ := h h1 h2
 exact ⟨a, b, c, by omega, e⟩
structure InvC (c : CSt) : Prop where
 here : c.here = foldC c.durable c.pending c.pending.length
 ok : ∀ k, RowsOk (foldC c.durable c.pending k) c.time
 ch : ∀ k q, c.pending[k]? = some q → ChOk (foldC c.durable c.pending k) q c.time
theorem InvC.rows {c : CSt} (h : InvC c) : RowsOk c.here c.time := by rw [h.here]; exact h.ok _
theorem InvC.same {c c' : CSt} (h : InvC c) (h1 : c'.here = c.here) (h2 : c'.durable = c.durable) (h3 : c'.pending = c.pending) (h4 : c'.time = c.time) : InvC c' :=
 ⟨by rw [h1, h2, h3]; exact h.here, fun k => by rw [h2, h3, h4]; exact h.ok k, fun k q hq => by rw [h3] at hq; rw [h2, h3, h4]; exact h.ch k q hq⟩
theorem fold_do (c : CSt) (q : ChM) (h : c.here = foldC c.durable c.pending c.pending.length) (k : Nat) : foldC (doC c q).durable (doC c q).pending k = if k ≤ c.pending.length then foldC c.durable c.pending k else applyC c.here q := by
 show ((c.pending ++ [q]).take k).foldl applyC c.durable = _
 split
 ·rename_i hk
  rw [List.take_append_of_le_length hk]
  rfl
 ·rename_i hk
  rw [List.take_of_length_le (by rw [List.length_append, List.length_singleton]; omega), List.foldl_append, h, foldC_all _ _ (Nat.le_refl _)]
  rfl
theorem pend_do (c : CSt) (q : ChM) : (doC c q).pending.length = c.pending.length + 1 := by
 show (c.pending ++ [q]).length = _
 rw [List.length_append, List.length_singleton]
theorem InvC.do_ {c : CSt} (h : InvC c) (q : ChM) (hr : RowsOk (applyC c.here q) (c.time + 1)) (hq : ChOk c.here q (c.time + 1)) : InvC (doC c q) := by
 refine ⟨?_, fun k => ?_, fun k x hx => ?_⟩
 ·rw [pend_do, fold_do c q h.here, if_neg (by omega)]; rfl
 ·rw [fold_do c q h.here]
  show RowsOk _ (c.time + 1)
  split
  ·exact (h.ok k).later (by omega)
  ·exact hr
 ·have hx' : (c.pending ++ [q])[k]? = some x := hx
  have hkl := (List.getElem?_eq_some_iff.1 hx').1
  rw [List.length_append, List.length_singleton] at hkl
  rw [fold_do c q h.here, if_pos (by omega)]
  show ChOk _ x (c.time + 1)
  by_cases hkk : k < c.pending.length
  ·rw [List.getElem?_append_left hkk] at hx'
   exact (h.ch k x hx').later (by omega)
  ·have e : k = c.pending.length := by omega
   subst e
   rw [List.getElem?_append_right (Nat.le_refl _), Nat.sub_self] at hx'
   injection hx' with hx'
   rw [← hx', ← h.here]
   exact hq
theorem InvC.of_rows {c : CSt} (hp : c.pending = []) (hs : c.here = c.durable) (hr : RowsOk c.here c.time) : InvC c := by
 have e : ∀ k, foldC c.durable c.pending k = c.here := fun k => by unfold foldC; rw [hp, hs]; simp
 exact ⟨(e _).symm, fun k => by rw [e]; exact hr, fun k q hq => by rw [hp] at hq; cases hq⟩
theorem InvC.settle {c : CSt} (h : InvC c) : InvC (settleC c) := by
 have e : c.here = c.pending.foldl applyC c.durable := by rw [← foldC_all _ _ (Nat.le_refl _)]; exact h.here
 exact InvC.of_rows rfl e h.rows
theorem InvC.new_ (room : Int) : InvC (newC room) := InvC.of_rows rfl rfl (RowsOk.nil_ _)
theorem wrE_ok {c : CSt} {p : List UInt8} {mode : Int} {data : List UInt8} {room : Int} {create : Bool} (h : wrE c p mode data room create = 0) :
  pathB p = true ∧ (1 ≤ mode ∧ mode ≤ 3) ∧ data.length ≤ 20000 ∧ mayC c.here p [] = true ∧ (usedM c.here : Int) - ((peekF c.here p).data.length : Int) + (data.length : Int) ≤ room ∧ ¬ (create = true ∧ peekB c.here p = true) := by
 unfold wrE at h
 split at h
 ·cases h
 ·rename_i h1
  split at h
  ·cases h
  ·rename_i h2
   split at h
   ·cases h
   ·rename_i h3
    split at h
    ·cases h
    ·rename_i h4
     split at h
     ·cases h
     ·rename_i h5
      split at h
      ·cases h
      ·exact ⟨by simpa using h1, by omega, by omega, by simpa using h5, by omega, h4⟩
theorem apply_put (R : List RowM) (p : List UInt8) (f : FileM) (h : p ≠ []) : applyC R ⟨[], p, f⟩ = withM R p f := by
 show (if p = [] then goneM R [] else withM (goneM R []) p f) = _
 rw [if_neg h, gone_nil]
theorem apply_move (R : List RowM) (fr p : List UInt8) (f : FileM) (hf : fr ≠ []) (h : p ≠ []) : applyC R ⟨fr, p, f⟩ = withM (withoutM R fr) p f := by
 show (if p = [] then goneM R fr else withM (goneM R fr) p f) = _
 rw [if_neg h, gone_some _ hf]
theorem apply_drop (R : List RowM) (p : List UInt8) (f : FileM) (h : p ≠ []) : applyC R ⟨p, [], f⟩ = withoutM R p := by
 show (if ([] : List UInt8) = [] then goneM R p else withM (goneM R p) [] f) = _
 rw [if_pos rfl, gone_some _ h]
theorem InvC.wr {c : CSt} (h : InvC c) (p : List UInt8) (mode : Int) (data : List UInt8) (room : Int) (create : Bool) : InvC (wrC c p mode data room create) := by
 unfold wrC
 split
 ·rename_i he
  obtain ⟨a, b, d, m, _, _⟩ := wrE_ok he
  have hm := may_of h.rows.ord (.inl rfl) m
  rw [gone_nil] at hm
  refine h.do_ _ ?_ ?_
  ·rw [apply_put _ _ _ (path_ne a)]
   exact (h.rows.later (by omega)).with_ (p := p) (f := ⟨mode, data, c.time + 1⟩) a b d (Int.le_refl _) (.inr hm)
  ·exact fun _ _ => ⟨a, b, d, Int.le_refl _, hm⟩
 ·exact h
theorem rmE_ok {c : CSt} {p : List UInt8} (h : rmE c p = 0) : pathB p = true ∧ peekB c.here p = true := by
 unfold rmE at h
 split at h
 ·cases h
 ·rename_i h1
  split at h
  ·cases h
  ·rename_i h2
   exact ⟨by simpa using h1, by simpa using h2⟩
theorem InvC.rm {c : CSt} (h : InvC c) (p : List UInt8) : InvC (rmC c p) := by
 unfold rmC
 split
 ·rename_i he
  obtain ⟨a, _⟩ := rmE_ok he
  refine h.do_ _ ?_ ?_
  ·rw [apply_drop _ _ _ (path_ne a)]
   exact (h.rows.later (by omega)).without p
  ·exact fun _ h2 => absurd rfl h2
 ·exact h
theorem mvE_ok {c : CSt} {fr tt : List UInt8} {create : Bool} (h : mvE c fr tt create = 0) : pathB fr = true ∧ pathB tt = true ∧ peekB c.here fr = true ∧ ¬ (create = true ∧ peekB c.here tt = true) ∧ (tt ≠ fr → mayC c.here tt fr = true) := by
 unfold mvE at h
 split at h
 ·cases h
 ·rename_i h1
  split at h
  ·cases h
  ·rename_i h2
   split at h
   ·cases h
   ·rename_i h3
    have hp : pathB fr = true ∧ pathB tt = true := by
     cases hf : pathB fr with
     | false => exact absurd (.inl hf) h1
     | true => cases ht : pathB tt with
      | false => exact absurd (.inr ht) h1
      | true => exact ⟨rfl, rfl⟩
    split at h
    ·rename_i h4
     exact ⟨hp.1, hp.2, by simpa using h2, h3, fun hn => absurd h4 hn⟩
    ·split at h
     ·cases h
     ·rename_i h5
      exact ⟨hp.1, hp.2, by simpa using h2, h3, fun _ => by simpa using h5⟩
theorem InvC.mv {c : CSt} (h : InvC c) (fr tt : List UInt8) (create : Bool) : InvC (mvC c fr tt create) := by
 unfold mvC
 split
 ·rename_i he
  obtain ⟨he, hne⟩ := he
  obtain ⟨a, b, d, _, m⟩ := mvE_ok he
  have hm := may_of h.rows.ord (.inr d) (m hne)
  rw [gone_some _ (path_ne a)] at hm
  have hrow := h.rows.row _ (peek_at d)
  refine h.do_ _ ?_ ?_
  ·rw [apply_move _ _ _ _ (path_ne a) (path_ne b)]
   exact ((h.rows.later (by omega)).without fr).with_ b ⟨hrow.2.1, hrow.2.2.1⟩ hrow.2.2.2.1 (by have := hrow.2.2.2.2; dsimp only at this ⊢; omega) (.inr hm)
  ·exact fun h1 _ => absurd h1 (path_ne a)
 ·exact h
theorem InvC.uw {c : CSt} (h : InvC c) (p : List UInt8) (mode : Int) (data : List UInt8) : InvC (uwC c p mode data) := by
 unfold uwC
 split
 ·exact InvC.same (c := settleC (wrC c p mode data 9223372036854775807 false)) (h.wr _ _ _ _ _).settle rfl rfl rfl rfl
 ·exact h
theorem InvC.ur {c : CSt} (h : InvC c) (p : List UInt8) : InvC (urC c p) := by
 unfold urC
 split
 ·exact InvC.same (c := settleC (rmC c p)) (h.rm p).settle rfl rfl rfl rfl
 ·exact h
theorem left_fold (c : CSt) (keep torn : Int) : (leftC c keep torn).foldl applyC c.durable = match c.pending[keepC c keep]? with
  | none => foldC c.durable c.pending (keepC c keep)
  | some q => if tearsB q torn = true then applyC (foldC c.durable c.pending (keepC c keep)) (partC q torn) else foldC c.durable c.pending (keepC c keep) := by
 unfold leftC
 rw [List.foldl_append]
 cases hq : c.pending[keepC c keep]? with
 | none => rfl
 | some q =>
  show (if tearsB q torn = true then [partC q torn] else []).foldl applyC (foldC c.durable c.pending (keepC c keep)) = _
  dsimp only
  split <;> rfl
theorem left_ok {c : CSt} (h : InvC c) (keep torn : Int) : RowsOk ((leftC c keep torn).foldl applyC c.durable) c.time := by
 rw [left_fold]
 split
 ·exact h.ok _
 ·rename_i q hq
  split
  ·rename_i ht
   unfold tearsB at ht
   simp only [Bool.and_eq_true, decide_eq_true_eq] at ht
   unfold applyC partC
   dsimp only
   rw [ht.1, gone_nil]
   split
   ·exact h.ok _
   ·rename_i hp
    obtain ⟨a, b, d, e, m⟩ := h.ch _ q hq ht.1 hp
    exact (h.ok _).with_ (p := q.path) (f := { q.f with data := q.f.data.take torn.toNat }) a b (by show (q.f.data.take torn.toNat).length ≤ 20000; rw [List.length_take]; omega) e (.inr m)
  ·exact h.ok _
theorem InvC.cr {c : CSt} (h : InvC c) (keep torn : Int) : InvC (crC c keep torn) := by
 unfold crC
 split
 ·exact h
 ·exact InvC.of_rows rfl rfl (left_ok h keep torn)
theorem InvC.ev {s : BgC} (h : InvC s.c) (e : EvM) : InvC (evC s e).c := by
 have h1 : InvC { s.c with plan := s.c.plan.tail } := h.same rfl rfl rfl rfl
 unfold evC
 split
 ·exact h1.cr _ _
 ·split
  ·exact h1
  ·split
   ·exact h1
   ·split
    ·exact h1.uw _ _ _
    ·split
     ·exact h1.ur _
     ·exact h1
theorem bgK_more {c : CSt} {k : Nat} (h : c.plan[k]? = none) : bgK c (k + 1) = bgK c k := by
 have hl : c.plan.length ≤ k := by simpa using h
 unfold bgK
 rw [List.take_of_length_le (by omega), List.take_of_length_le hl]
theorem InvC.bgk {c : CSt} (h : InvC c) : ∀ k, InvC (bgK c k).c
 | 0 => h.same rfl rfl rfl rfl
 | k + 1 => by
  cases he : c.plan[k]? with
  | none => rw [bgK_more he]; exact InvC.bgk h k
  | some e => rw [bgK_next he]; exact (InvC.bgk h k).ev e
theorem InvC.bg {c : CSt} (h : InvC c) : InvC (bgC c).c := h.bgk _
theorem InvC.crt {c : CSt} (h : InvC c) (p : List UInt8) (mode : Int) (data : List UInt8) (create : Bool) : InvC (crtC c p mode data create) := by
 unfold crtC
 split
 ·exact h.bg.wr _ _ _ _ _
 ·exact h.bg
theorem InvC.mov {c : CSt} (h : InvC c) (fr tt : List UInt8) (create : Bool) : InvC (movC c fr tt create) := by
 unfold movC
 split
 ·exact h.bg.mv _ _ _
 ·exact h.bg
/-! The room is kept but for what users write. -/
def KeptC (c : CSt) : Prop := c.users ≠ [] ∨ ∀ k, (usedM (foldC c.durable c.pending k) : Int) ≤ max c.room 0
structure PlanR (c : CSt) (l : List EvM) (R : List EvM) : Prop where
 len : R.length = (l.filter fun e => decide (c.calls < e.at_)).length
 mem : ∀ e ∈ R, e ∈ l ∧ c.calls < e.at_
def DoesR (c : CSt) (o : LOp) (c' : CSt) : Prop := (o.kind ≠ 12 → c' = doesC c o) ∧ (o.kind = 12 → ∃ R, PlanR c o.plan R ∧ c' = { c with plan := R })
end Go.Proofs.YtbenkmihkbjgeaaGreat.Tx
