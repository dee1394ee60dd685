/- Texts put together: VSc27. -/
import Derived.Test.YtbenkmihkbjgeaaGreatQv48
/- Package scan, plain: where nothing goes wrong, a scan tells just what stands there. (No Go in it.) -/
set_option linter.unusedVariables false
set_option linter.unusedSimpArgs false
namespace Go.Proofs.YtbenkmihkbjgeaaGreat.Tx
open Go.RowKit Go.Proofs.YtbenkmihkbjgeaaGreat.Sh
theorem hitw_tmp : hitC wD tmpP = false := by decide
theorem hitw_obj (n : List UInt8) : hitC wD (objP n) = false := by unfold hitC prefB wD objP; simp
theorem hitw_wP (q : List UInt8) : hitC wD (wP q) = true := by unfold hitC prefB wD wP; simp
theorem hitw_of {p : List UInt8} (h : hitC wD p = true) : p = wP (p.drop 2) := by
 unfold hitC prefB wD at h
 match p, h with
 | [], h => simp at h
 | [a], h => simp at h
 | a :: b :: q, h =>
  simp at h
  obtain ⟨rfl, rfl⟩ := h
  rfl
theorem last_wP (q : List UInt8) : lastN wD (wP q) = q := by unfold lastN wD wP; simp
theorem under_w {p : List UInt8} (hp : pathB p = true) : underB wD p = hitC wD p := by
 have h0 : pathB wD = true := by decide
 have h2 : p ≠ [119, 47] := fun e => by rw [e] at hp; revert hp; decide
 unfold underB hitC prefB
 rw [h0, hp]
 unfold wD
 match p, h2 with
 | [], _ => rfl
 | [a], _ => rfl
 | [a, b], h2 =>
  cases h : (decide ([119] = ([] : List UInt8)) || decide (([119] ++ [47] : List UInt8).length ≤ [a, b].length) && (List.take ([119] ++ [47] : List UInt8).length [a, b] == [119] ++ [47])) with
  | false => simp
  | true =>
   simp at h
   exact absurd (by rw [h.1, h.2]) h2
 | a :: b :: c :: q, _ => simp
def WF (R : List RowM) : List RowM := R.filter fun r => hitC wD r.path
theorem mem_WF {R : List RowM} {r : RowM} : r ∈ WF R ↔ r ∈ R ∧ hitC wD r.path = true := List.mem_filter
theorem WF_without {R : List RowM} {p : List UInt8} (h : hitC wD p = false) : WF (withoutM R p) = WF R := by
 unfold WF withoutM
 rw [List.filter_filter]
 refine List.filter_congr fun r _ => ?_
 by_cases e : r.path = p
 ·rw [e, h]; rfl
 ·simp [e]
theorem WF_with {R : List RowM} {p : List UInt8} {f : FileM} (h : hitC wD p = false) : WF (withM R p f) = WF R := by
 obtain ⟨A, B, h1, h2, _, _⟩ := with_split R p f
 rw [← WF_without (R := R) h, h1, h2]
 unfold WF
 rw [List.filter_append, List.filter_append, List.filter_cons_of_neg (by rw [h]; decide)]
theorem WF_len (R : List RowM) (p : List UInt8) (f : FileM) : (WF (withM R p f)).length ≤ (WF R).length + 1 ∧ (WF (withoutM R p)).length ≤ (WF R).length := by
 have hw : (WF (withoutM R p)).length ≤ (WF R).length := by
  unfold WF withoutM
  rw [List.filter_filter]
  have e : (R.filter fun r => (hitC wD r.path && !(r.path == p))) = (R.filter fun r => hitC wD r.path).filter fun r => !(r.path == p) := by
   rw [List.filter_filter]
   exact List.filter_congr fun r _ => Bool.and_comm _ _
  rw [e]
  exact List.length_filter_le _ _
 refine ⟨?_, hw⟩
 obtain ⟨A, B, h1, h2, _, _⟩ := with_split R p f
 rw [h1] at hw
 rw [h2]
 unfold WF at *
 rw [List.filter_append, List.length_append] at hw ⊢
 rw [List.filter_cons]
 split
 ·rw [List.length_cons]; omega
 ·omega
theorem WF_list (R : List RowM) : listC R wD = (WF R).map (·.path) := by
 unfold listC pathsM WF
 rw [List.filter_map]
 rfl
theorem WF_peek {R R' : List RowM} (ho : Ord R) (ho' : Ord R') (h : WF R' = WF R) (q : List UInt8) : peekB R' (wP q) = peekB R (wP q) ∧ peekF R' (wP q) = peekF R (wP q) := by
 have go : ∀ {A B : List RowM}, WF A = WF B → ∀ f, (⟨wP q, f⟩ : RowM) ∈ A → (⟨wP q, f⟩ : RowM) ∈ B := fun {A B} e f hf => by
  have h1 := mem_WF.2 ⟨hf, hitw_wP q⟩
  rw [e] at h1
  exact (mem_WF.1 h1).1
 cases hs : peekB R (wP q) with
 | true =>
  have h1 := go h.symm _ (peek_at hs)
  exact ⟨peek_yes h1, peek_is ho' h1⟩
 | false =>
  have h2 : peekB R' (wP q) = false := by
   cases hs' : peekB R' (wP q) with
   | false => rfl
   | true =>
    have h1 := peek_yes (go h _ (peek_at hs'))
    dsimp only at h1
    rw [hs] at h1
    cases h1
  exact ⟨h2, by rw [peek_none' hs, peek_none' h2]⟩
def HasOK (c : CSt) (id : List UInt8) : Prop := validB id = true ∧ peekB c.here (objP id) = true ∧ idL (peekF c.here (objP id)).data = id
theorem Calm.has_iff {c : CSt} (h : Calm c) (id : List UInt8) : hasE c id = true ↔ HasOK c id := by
 unfold hasE sgeE HasOK
 rw [decide_eq_true_iff]
 cases hv : validB id with
 | false => rw [if_pos rfl]; simp
 | true =>
  rw [if_neg (by decide)]
  obtain ⟨h1, h2⟩ := h.red (objP_path (valid_name hv))
  rw [h1, h2]
  cases hs : peekB c.here (objP id) with
  | false => simp
  | true => simp
structure Quo (c0 c : CSt) : Prop where
 calm : Calm c
 inv : InvC c
 w : WF c.here = WF c0.here
 time : c0.time ≤ c.time
 has : ∀ id, HasOK c0 id → HasOK c id
section
variable {c c0 c1 c2 : CSt}
theorem Quo.refl (h : Calm c) (hi : InvC c) : Quo c c := ⟨h, hi, rfl, Int.le_refl _, fun _ h => h⟩
theorem Quo.trans (h1 : Quo c0 c1) (h2 : Quo c1 c2) : Quo c0 c2 := ⟨h2.calm, h2.inv, h2.w.trans h1.w, Int.le_trans h1.time h2.time, fun id h => h2.has id (h1.has id h)⟩
theorem Quo.tick (h : Calm c) (hi : InvC c) : Quo c (Tx.tick c) := ⟨h.tick, hi.same rfl rfl rfl rfl, rfl, Int.le_refl _, fun _ h => h⟩
theorem Quo.bg (h : Calm c) (hi : InvC c) : Quo c (bgC c).c := by rw [h.bg.1]; exact Quo.tick h hi
theorem Quo.crt (h : Calm c) (hi : InvC c) (b : List UInt8) : Quo c (crtC c tmpP 1 b false) ∧ (crtE c tmpP 1 b false = 0 → (peekF (crtC c tmpP 1 b false).here tmpP).data = b) := by
 have hc := hi.crt tmpP 1 b false
 obtain ⟨e1, e2⟩ := h.crt tmpP 1 b false
 by_cases h0 : wrE c tmpP 1 b c.room false = 0
 ·have e3 : crtC c tmpP 1 b false = doC (Tx.tick c) ⟨[], tmpP, ⟨1, b, c.time + 1⟩⟩ := by
   rw [e2]
   unfold wrC
   have h0' : wrE (Tx.tick c) tmpP 1 b c.room false = 0 := h0
   rw [if_pos h0']
   rfl
  have hh : (doC (Tx.tick c) ⟨[], tmpP, ⟨1, b, c.time + 1⟩⟩).here = withM c.here tmpP ⟨1, b, c.time + 1⟩ := apply_put _ _ _ tmpP_ne
  rw [e3] at hc ⊢
  refine ⟨⟨⟨h.plan, h.down⟩, hc, ?_, ?_, ?_⟩, fun _ => ?_⟩
  ·rw [hh]
   exact WF_with hitw_tmp
  ·show c.time ≤ c.time + 1
   omega
  ·rintro id ⟨v1, v2, v3⟩
   refine ⟨v1, ?_, ?_⟩
   ·rw [hh, peek_with, v2]
    simp
   ·rw [hh, peekf_other hi.rows.ord _ (obj_tmp id)]
    exact v3
  ·rw [hh, peekf_with hi.rows.ord]
 ·have e3 : crtC c tmpP 1 b false = Tx.tick c := by
   rw [e2]
   unfold wrC
   have h0' : ¬ wrE (Tx.tick c) tmpP 1 b c.room false = 0 := h0
   rw [if_neg h0']
  rw [e3]
  exact ⟨Quo.tick h hi, fun h1 => absurd (e1.symm.trans h1) h0⟩
theorem Quo.mov (h : Calm c) (hi : InvC c) {b : List UInt8} (hd : (peekF c.here tmpP).data = b) : Quo c (movC c tmpP (stP b) false) ∧ (movE c tmpP (stP b) false = 0 → HasOK (movC c tmpP (stP b) false) (idL b)) := by
 have hc := hi.mov tmpP (stP b) false
 obtain ⟨e1, e2⟩ := h.mov tmpP (stP b) false
 by_cases h0 : mvE c tmpP (stP b) false = 0
 ·have e3 : movC c tmpP (stP b) false = doC (Tx.tick c) ⟨tmpP, stP b, peekF c.here tmpP⟩ := by
   rw [e2]
   unfold mvC
   have h0' : mvE (Tx.tick c) tmpP (stP b) false = 0 := h0
   rw [if_pos ⟨h0', obj_tmp _⟩]
   rfl
  have hn : stP b ≠ [] := objP_ne _
  have ho := without_ord hi.rows.ord tmpP
  have hh : (doC (Tx.tick c) ⟨tmpP, stP b, peekF c.here tmpP⟩).here = withM (withoutM c.here tmpP) (stP b) (peekF c.here tmpP) := apply_move _ _ _ _ tmpP_ne hn
  have key : HasOK (doC (Tx.tick c) ⟨tmpP, stP b, peekF c.here tmpP⟩) (idL b) := by
   refine ⟨idL_valid b, ?_, ?_⟩
   ·rw [hh]
    show peekB _ (stP b) = true
    rw [peek_with]
    simp
   ·rw [hh]
    show idL (peekF _ (stP b)).data = idL b
    rw [peekf_with ho, hd]
  rw [e3] at hc ⊢
  refine ⟨⟨⟨h.plan, h.down⟩, hc, ?_, ?_, ?_⟩, fun _ => key⟩
  ·rw [hh]
   exact (WF_with (hitw_obj _)).trans (WF_without hitw_tmp)
  ·show c.time ≤ c.time + 1
   omega
  ·rintro id ⟨v1, v2, v3⟩
   by_cases e : id = idL b
   ·rw [e]; exact key
   ·have hne : objP id ≠ stP b := fun h => e (objP_inj h)
    refine ⟨v1, ?_, ?_⟩
    ·rw [hh, peek_with, peek_without, v2]
     simp [obj_tmp]
    ·rw [hh, peekf_other ho _ hne, peekf_without hi.rows.ord (obj_tmp id)]
     exact v3
 ·have e3 : movC c tmpP (stP b) false = Tx.tick c := by
   rw [e2]
   unfold mvC
   have h0' : ¬ mvE (Tx.tick c) tmpP (stP b) false = 0 := h0
   rw [if_neg (fun h => h0' h.1)]
  rw [e3]
  exact ⟨Quo.tick h hi, fun h1 => absurd (e1.symm.trans h1) h0⟩
theorem Quo.put (h : Calm c) (hi : InvC c) (b : List UInt8) : Quo c (sptC c b) ∧ (sptE c b = 0 → HasOK (sptC c b) (idL b)) := by
 unfold sptE sptC
 by_cases hl : 20000 < b.length
 ·rw [if_pos hl, if_pos hl]
  exact ⟨Quo.refl h hi, fun h => absurd h (by decide)⟩
 ·rw [if_neg hl, if_neg hl]
  by_cases hp : preE c b = 7
  ·rw [if_pos hp, if_pos hp, h.bg.1]
   have t := Quo.tick h hi
   obtain ⟨k1, k2⟩ := Quo.crt t.calm t.inv b
   unfold wmE wmC
   by_cases h0 : crtE (Tx.tick c) tmpP 1 b false = 0
   ·rw [if_pos h0, if_pos h0]
    obtain ⟨m1, m2⟩ := Quo.mov k1.calm k1.inv (k2 h0)
    exact ⟨t.trans (k1.trans m1), m2⟩
   ·rw [if_neg h0, if_neg h0]
    exact ⟨t.trans k1, fun h1 => absurd h1 h0⟩
  ·rw [if_neg hp, if_neg hp]
   refine ⟨Quo.bg h hi, fun h0 => ?_⟩
   rw [h.bg.1]
   obtain ⟨r1, r2⟩ := h.red (stP_path b)
   unfold preE at h0
   rw [r1, r2] at h0
   cases hs : peekB c.here (stP b) with
   | false => rw [hs] at h0; simp at h0
   | true =>
    rw [hs, if_pos rfl, if_pos rfl] at h0
    by_cases hb : (peekF c.here (stP b)).data = b
    ·exact ⟨idL_valid b, hs, congrArg idL hb⟩
    ·rw [if_neg hb] at h0
     split at h0 <;> cases h0
theorem Quo.hasc (h : Calm c) (hi : InvC c) (id : List UInt8) : Quo c (hasC c id) := by
 unfold hasC
 split
 ·exact Quo.refl h hi
 ·exact Quo.bg h hi
theorem Quo.hsh (x : IxM) (h : Calm c) (hi : InvC c) (p : List UInt8) (f : FileM) : Quo c (hshC x c p f) := by
 unfold hshC
 split
 ·exact Quo.hasc h hi _
 ·exact Quo.refl h hi
theorem hshQ_some {x : IxM} {p id : List UInt8} {f : FileM} (h : hshQ x c p f = some id) : ixL x p f.time = some id ∧ hasE c id = true ∧ hshC x c p f = hasC c id := by
 unfold hshQ at h
 unfold hshC
 cases hx : ixL x p f.time with
 | none => rw [hx] at h; cases h
 | some i =>
  rw [hx] at h
  dsimp only at h ⊢
  split at h
  ·rename_i h1
   injection h with h
   subst h
   exact ⟨rfl, h1, rfl⟩
  ·cases h
theorem Quo.hash (x : IxM) (h : Calm c) (hi : InvC c) (p : List UInt8) (f : FileM) :
  Quo c (hashC x c p f) ∧ (hashE x c p f = 0 → HasOK (hashC x c p f) (hashV x c p f) ∧ (ixL x p f.time = some (hashV x c p f) ∨ (hashV x c p f = idL (blobL f.data) ∧ f.data.length ≤ 4096))) := by
 have q := Quo.hsh x h hi p f
 unfold hashC hashE hashV
 cases hq : hshQ x c p f with
 | some id =>
  dsimp only
  obtain ⟨h1, h2, h3⟩ := hshQ_some hq
  exact ⟨q, fun _ => ⟨q.has id ((h.has_iff id).1 h2), .inl h1⟩⟩
 | none =>
  dsimp only
  by_cases hl : 4096 < f.data.length
  ·rw [if_pos hl, if_pos hl]
   exact ⟨q, fun h => absurd h (by decide)⟩
  ·rw [if_neg hl, if_neg hl, if_neg hl]
   obtain ⟨k1, k2⟩ := Quo.put q.calm q.inv (blobL f.data)
   refine ⟨q.trans k1, fun h0 => ?_⟩
   have e : sptV (hshC x c p f) (blobL f.data) = idL (blobL f.data) := by unfold sptV; rw [if_pos h0]
   rw [e]
   exact ⟨k2 h0, .inr ⟨rfl, by omega⟩⟩
def IxOK (x : IxM) (c : CSt) : Prop := ∀ p k, knF x.files p = some k → k.time ≤ c.time ∧ ∀ f, (⟨wP p, f⟩ : RowM) ∈ c.here → f.time = k.time → k.id = idL (blobL f.data) ∧ f.data.length ≤ 4096
theorem IxOK.nil_ (c : CSt) : IxOK ⟨[], 0⟩ c := fun p k h => by cases h
theorem mem_same {R R' : List RowM} (e : WF R' = WF R) {q : List UInt8} {f : FileM} (h : (⟨wP q, f⟩ : RowM) ∈ R') : (⟨wP q, f⟩ : RowM) ∈ R := by
 have h1 := mem_WF.2 ⟨h, hitw_wP q⟩
 rw [e] at h1
 exact (mem_WF.1 h1).1
theorem IxOK.quo {x : IxM} (h : IxOK x c0) (q : Quo c0 c) : IxOK x c := fun p k hk => by
 obtain ⟨h1, h2⟩ := h p k hk
 exact ⟨Int.le_trans h1 q.time, fun f hf => h2 f (mem_same q.w hf)⟩
theorem IxOK.hash {x : IxM} (hx : IxOK x c) (h : Calm c) (hi : InvC c) {p : List UInt8} {f : FileM} (hf : (⟨wP p, f⟩ : RowM) ∈ c.here) (h0 : hashE x c p f = 0) : hashV x c p f = idL (blobL f.data) ∧ f.data.length ≤ 4096 := by
 rcases ((Quo.hash x h hi p f).2 h0).2 with h1 | h1
 ·unfold ixL at h1
  cases hk : knF x.files p with
  | none => rw [hk] at h1; cases h1
  | some k =>
   rw [hk] at h1
   dsimp only at h1
   split at h1
   ·rename_i h2
    injection h1 with h1
    rw [← h1]
    exact (hx p k hk).2 f hf h2.1.symm
   ·cases h1
 ·exact h1
def rowS (R : List RowM) (p : List UInt8) : RwM := ⟨p, (peekF R (wP p)).mode, idL (blobL (peekF R (wP p)).data)⟩
structure Tok (c0 : CSt) (s : ScM) (done : List (List UInt8)) : Prop where
 quo : Quo c0 s.c
 rows : s.rows = done.map (rowS c0.here)
 has : ∀ p ∈ done, HasOK s.c (idL (blobL (peekF c0.here (wP p)).data)) ∧ (peekF c0.here (wP p)).data.length ≤ 4096
 files : ∀ p k, knF s.files p = some k → k.time = (peekF c0.here (wP p)).time ∧ k.id = idL (blobL (peekF c0.here (wP p)).data) ∧ (peekF c0.here (wP p)).data.length ≤ 4096 ∧ peekB c0.here (wP p) = true
theorem Quo.tak (x : IxM) {s : ScM} (h : Calm s.c) (hi : InvC s.c) (p : List UInt8) : Quo s.c (takS x s p).c := by
 have b := Quo.bg h hi
 unfold takS
 split
 ·exact Quo.refl h hi
 ·split
  ·exact b
  ·split
   ·exact b.trans (Quo.hash x b.calm b.inv p _).1
   ·exact b.trans (Quo.hash x b.calm b.inv p _).1
theorem Tok.tak {x : IxM} {s : ScM} {done : List (List UInt8)} {p : List UInt8} (h : Tok c0 s done) (hx : IxOK x c0) (hi : InvC c0) (hp : peekB c0.here (wP p) = true) (he : takE x s p = 0) : Tok c0 (takS x s p) (done ++ [p]) := by
 have hpath : pathB (wP p) = true := (hi.rows.row _ (peek_at hp)).1
 obtain ⟨g1, g2⟩ := WF_peek hi.rows.ord h.quo.inv.rows.ord h.quo.w p
 obtain ⟨r1, r2⟩ := h.quo.calm.red hpath
 rw [g1, hp, if_pos rfl] at r1
 rw [g2] at r2
 have b := Quo.bg h.quo.calm h.quo.inv
 have q1 := Quo.tak x h.quo.calm h.quo.inv p
 unfold takE at he
 unfold takS at q1 ⊢
 by_cases h1 : 256 ≤ s.rows.length
 ·rw [if_pos h1] at he; cases he
 rw [if_neg h1] at he q1 ⊢
 rw [r1, if_neg (by decide), if_neg (by decide)] at he
 rw [r1, if_neg (by decide), r2] at q1 ⊢
 rw [r2] at he
 rw [if_neg (by rw [he]; decide)] at q1 ⊢
 obtain ⟨F, hF⟩ : ∃ F, peekF c0.here (wP p) = F := ⟨_, rfl⟩
 have hm : (⟨wP p, F⟩ : RowM) ∈ (bgC s.c).c.here := by
  have h2 := mem_WF.2 ⟨peek_at hp, hitw_wP p⟩
  rw [← (h.quo.trans b).w, hF] at h2
  exact (mem_WF.1 h2).1
 rw [hF] at he q1 ⊢
 obtain ⟨z1, z2⟩ := (hx.quo (h.quo.trans b)).hash b.calm b.inv hm he
 have z3 := ((Quo.hash x b.calm b.inv p F).2 he).1
 rw [z1] at z3 q1 ⊢
 refine ⟨h.quo.trans q1, ?_, ?_, ?_⟩
 ·show s.rows ++ [_] = _
  rw [h.rows, List.map_append]
  unfold rowS
  rw [List.map_cons, List.map_nil, hF]
 ·intro q hq
  rcases List.mem_append.1 hq with hq | hq
  ·exact ⟨q1.has _ (h.has q hq).1, (h.has q hq).2⟩
  ·rw [List.mem_singleton.1 hq, hF]
   exact ⟨z3, z2⟩
 ·intro q k hk
  have hk' : knF (putK s.files ⟨p, F.time, idL (blobL F.data)⟩) q = some k := hk
  rw [knF_put] at hk'
  split at hk'
  ·rename_i e
   injection hk' with hk'
   rw [← hk', e]
   show F.time = (peekF c0.here (wP p)).time ∧ idL (blobL F.data) = idL (blobL (peekF c0.here (wP p)).data) ∧ (peekF c0.here (wP p)).data.length ≤ 4096 ∧ peekB c0.here (wP p) = true
   rw [hF]
   exact ⟨rfl, rfl, z2, hp⟩
  ·exact h.files q k hk'
theorem Quo.all (x : IxM) : ∀ (l : List (List UInt8)) {s : ScM}, Calm s.c → InvC s.c → Quo s.c (allS x s l).c
 | [], _, h, hi => Quo.refl h hi
 | p :: l, s, h, hi => by
  have q := Quo.tak x h hi p
  show Quo s.c (if takE x s p = 0 then allS x (takS x s p) l else takS x s p).c
  split
  ·exact q.trans (Quo.all x l q.calm q.inv)
  ·exact q
theorem Tok.all {x : IxM} (hx : IxOK x c0) (hi : InvC c0) : ∀ (l : List (List UInt8)) {s : ScM} {done : List (List UInt8)}, Tok c0 s done → (∀ p ∈ l, peekB c0.here (wP p) = true) → allE x s l = 0 → Tok c0 (allS x s l) (done ++ l)
 | [], s, done, h, _, _ => by rw [List.append_nil]; exact h
 | p :: l, s, done, h, hl, he => by
  have he' : (if takE x s p = 0 then allE x (takS x s p) l else takE x s p) = 0 := he
  by_cases h0 : takE x s p = 0
  ·rw [if_pos h0] at he'
   show Tok c0 (if takE x s p = 0 then allS x (takS x s p) l else takS x s p) _
   rw [if_pos h0]
   have := Tok.all hx hi l (h.tak hx hi (hl p List.mem_cons_self) h0) (fun q hq => hl q (List.mem_cons_of_mem _ hq)) he'
   rw [List.append_assoc] at this
   exact this
  ·rw [if_neg h0] at he'; exact absurd he' h0
theorem scn_quo (X : IxM) (ig : List (List UInt8)) (h : Calm c) (hi : InvC c) : Quo c (scnC X c ig) := by
 have b : Quo c (scn0 c).c := Quo.bg h hi
 unfold scnC scnS
 split
 ·exact b.trans (Quo.all X _ b.calm b.inv)
 ·exact b
theorem names_stand {ig : List (List UInt8)} {R : List RowM} {p : List UInt8} (h : p ∈ namesS ig (listC R wD)) : peekB R (wP p) = true := by
 unfold namesS at h
 obtain ⟨h1, _⟩ := List.mem_filter.1 h
 obtain ⟨q, hq, rfl⟩ := List.mem_map.1 h1
 rw [WF_list] at hq
 obtain ⟨r, hr, rfl⟩ := List.mem_map.1 hq
 obtain ⟨h2, h3⟩ := mem_WF.1 hr
 have e := hitw_of h3
 have e2 : lastN wD r.path = r.path.drop 2 := (congrArg (lastN wD) e).trans (last_wP _)
 rw [e2, ← e]
 exact peek_yes h2
theorem scn_tells {X : IxM} (ig : List (List UInt8)) (hx : IxOK X c) (h : Calm c) (hi : InvC c) (he : scnE X c ig = 0) :
  scnR X c ig = (namesS ig (listC c.here wD)).map (rowS c.here) ∧ (∀ p ∈ namesS ig (listC c.here wD), HasOK (scnC X c ig) (idL (blobL (peekF c.here (wP p)).data)) ∧ (peekF c.here (wP p)).data.length ≤ 4096) ∧ IxOK (scnX X c ig) (scnC X c ig) := by
 have b : Quo c (scn0 c).c := Quo.bg h hi
 obtain ⟨l1, l2⟩ := h.lis (dir := wD) (by decide)
 have he0 := he
 unfold scnE at he
 rw [l1, if_pos rfl, l2] at he
 have t0 : Tok c (scn0 c) [] := ⟨b, rfl, (fun _ h => by cases h), (fun _ _ h => by cases h)⟩
 have t := Tok.all hx hi (namesS ig (listC c.here wD)) t0 (fun p hp => names_stand hp) he
 rw [List.nil_append] at t
 have es : scnS X c ig = allS X (scn0 c) (namesS ig (listC c.here wD)) := by unfold scnS; rw [l1, if_pos rfl, l2]
 rw [← es] at t
 refine ⟨?_, t.has, ?_⟩
 ·unfold scnR
  rw [if_pos he0]
  exact t.rows
 ·unfold scnX
  rw [if_pos he0]
  intro p k hk
  obtain ⟨f1, f2, f3, f4⟩ := t.files p k hk
  have hr := (hi.rows.row _ (peek_at f4)).2.2.2.2
  refine ⟨by rw [f1]; exact Int.le_trans hr t.quo.time, fun f hf _ => ?_⟩
  have hf' := mem_same t.quo.w hf
  have := peek_is hi.rows.ord hf'
  dsimp only at this
  rw [this] at f2 f3
  exact ⟨f2, f3⟩
theorem scnX_ok {X : IxM} (ig : List (List UInt8)) (hx : IxOK X c) (h : Calm c) (hi : InvC c) : IxOK (scnX X c ig) (scnC X c ig) := by
 by_cases he : scnE X c ig = 0
 ·exact (scn_tells ig hx h hi he).2.2
 ·have e : scnX X c ig = X := by unfold scnX; rw [if_neg he]
  rw [e]
  exact hx.quo (scn_quo X ig h hi)
theorem Calm.uw (h : Calm c) (p : List UInt8) (mode : Int) (d : List UInt8) : Calm (uwC c p mode d) := by
 unfold uwC
 split
 ·refine ⟨?_, ?_⟩
  ·show (wrC c p mode d 9223372036854775807 false).plan = []
   rw [(wr_plan c p mode d 9223372036854775807 false).1]; exact h.plan
  ·show (wrC c p mode d 9223372036854775807 false).down = false
   unfold wrC
   split
   ·exact h.down
   ·exact h.down
 ·exact h
theorem Calm.ur (h : Calm c) (p : List UInt8) : Calm (urC c p) := by
 unfold urC
 split
 ·refine ⟨?_, ?_⟩
  ·show (rmC c p).plan = []
   rw [(rm_plan c p).1]; exact h.plan
  ·show (rmC c p).down = false
   unfold rmC
   split
   ·exact h.down
   ·exact h.down
 ·exact h
theorem uw_here (h : Calm c) (p : List UInt8) (mode : Int) (d : List UInt8) : uwC c p mode d = c ∨ (pathB p = true ∧ (uwC c p mode d).here = withM c.here p ⟨mode, d, c.time + 1⟩ ∧ (uwC c p mode d).time = c.time + 1) := by
 have he : uwE c p mode d = wrE c p mode d 9223372036854775807 false := by unfold uwE; rw [h.down]; exact if_neg (by decide)
 unfold uwC
 rw [he]
 by_cases h0 : wrE c p mode d 9223372036854775807 false = 0
 ·right
  have hp := (wrE_ok h0).1
  have hw : wrC c p mode d 9223372036854775807 false = doC c ⟨[], p, ⟨mode, d, c.time + 1⟩⟩ := by unfold wrC; rw [if_pos h0]
  rw [if_pos h0, hw]
  exact ⟨hp, apply_put _ _ _ (path_ne hp), rfl⟩
 ·left
  rw [if_neg h0]
theorem ur_here (h : Calm c) (p : List UInt8) : urC c p = c ∨ ((urC c p).here = withoutM c.here p ∧ (urC c p).time = c.time + 1) := by
 have he : urE c p = rmE c p := by unfold urE; rw [h.down]; exact if_neg (by decide)
 unfold urC
 rw [he]
 by_cases h0 : rmE c p = 0
 ·right
  have hp := (rmE_ok h0).1
  have hw : rmC c p = doC c ⟨p, [], ⟨0, [], 0⟩⟩ := by unfold rmC; rw [if_pos h0]
  rw [if_pos h0, hw]
  exact ⟨apply_drop _ _ _ (path_ne hp), rfl⟩
 ·left
  rw [if_neg h0]
theorem IxOK.uw {x : IxM} (hx : IxOK x c) (h : Calm c) (p : List UInt8) (mode : Int) (d : List UInt8) : IxOK x (uwC c p mode d) := by
 rcases uw_here h p mode d with e | ⟨_, e, et⟩
 ·rw [e]; exact hx
 ·intro q k hk
  obtain ⟨h1, h2⟩ := hx q k hk
  rw [e, et]
  refine ⟨by omega, fun f hf hft => ?_⟩
  rcases mem_with.1 hf with hf | ⟨hf, _⟩
  ·injection hf with _ hf
   rw [hf] at hft
   dsimp only at hft
   omega
  ·exact h2 f hf hft
theorem IxOK.ur {x : IxM} (hx : IxOK x c) (h : Calm c) (p : List UInt8) : IxOK x (urC c p) := by
 rcases ur_here h p with e | ⟨e, et⟩
 ·rw [e]; exact hx
 ·intro q k hk
  obtain ⟨h1, h2⟩ := hx q k hk
  rw [e, et]
  exact ⟨by omega, fun f hf hft => h2 f (mem_without.1 hf).1 hft⟩
theorem uw_wf (h : Calm c) (p : List UInt8) (mode : Int) (d : List UInt8) : (WF (uwC c p mode d).here).length ≤ (WF c.here).length + 1 := by
 rcases uw_here h p mode d with e | ⟨_, e, _⟩
 ·rw [e]; omega
 ·rw [e]; exact (WF_len _ _ _).1
theorem ur_wf (h : Calm c) (p : List UInt8) : (WF (urC c p).here).length ≤ (WF c.here).length + 1 := by
 rcases ur_here h p with e | ⟨e, _⟩
 ·rw [e]; omega
 ·rw [e]; have := (WF_len c.here p ⟨0, [], 0⟩).2; omega
end
end Go.Proofs.YtbenkmihkbjgeaaGreat.Tx
