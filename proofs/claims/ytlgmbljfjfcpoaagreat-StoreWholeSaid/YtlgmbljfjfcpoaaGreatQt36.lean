/- Texts put together: YSr1. -/
import Derived.Test.YtlgmbljfjfcpoaaGreatQt35
/- Package store, as plain data; what holds of it whatever goes wrong but for users. (No Go in it.) -/
set_option linter.unusedVariables false
set_option linter.unusedSimpArgs false
namespace Go.Proofs.YtlgmbljfjfcpoaaGreat.Tx
open Go.RowKit Go.Proofs.YtlgmbljfjfcpoaaGreat.Sh

/-- "s/o/" and a hash; "s/t"; "s/o". -/
def objP (n : List UInt8) : List UInt8 := 115 :: 47 :: 111 :: 47 :: n
def tmpP : List UInt8 := [115, 47, 116]
def objD : List UInt8 := [115, 47, 111]
theorem objP_len (n : List UInt8) : (objP n).length = n.length + 4 := rfl
def idL (bs : List UInt8) : List UInt8 := hexL (sumOf bs)
theorem idL_valid (bs : List UInt8) : validB (idL bs) = true := by
  unfold validB idL
  rw [hexOk_hexL, hexL_length, sumOf_length]
  rfl
theorem idL_len (bs : List UInt8) : (idL bs).length = 64 := valid_len (idL_valid bs)
def stP (bs : List UInt8) : List UInt8 := objP (idL bs)
theorem dv_okc {c : UInt8} (h : (dv c).isSome = true) : okc c = true := by
  obtain ⟨n, hn, rfl⟩ : ∃ n, n < 256 ∧ c = UInt8.ofNat n := ⟨c.toNat, c.toNat_lt, by simp⟩
  have key : ∀ n, n < 256 → (dv (UInt8.ofNat n)).isSome = true → okc (UInt8.ofNat n) = true := by decide +kernel
  exact key n hn h
theorem valid_name {cs : List UInt8} (h : validB cs = true) : nameB cs = true := by
  have h1 := valid_len h
  unfold validB hexOk at h
  simp only [Bool.and_eq_true] at h
  rw [nameB_eq]
  have h2 : cs.all okc = true := List.all_eq_true.2 fun c hc => dv_okc (List.all_eq_true.1 h.2.2 c hc)
  have h3 : (cs == [46]) = false := by rw [beq_eq_false_iff_ne]; intro e; rw [e] at h1; cases h1
  have h4 : (cs == [46, 46]) = false := by rw [beq_eq_false_iff_ne]; intro e; rw [e] at h1; cases h1
  rw [h2, h3, h4, h1]
  rfl
theorem idL_name (bs : List UInt8) : nameB (idL bs) = true := valid_name (idL_valid bs)
theorem objP_path {n : List UInt8} (hn : nameB n = true) : pathB (objP n) = true := place_path (by decide) hn
theorem stP_path (bs : List UInt8) : pathB (stP bs) = true := objP_path (idL_name bs)
theorem objP_ne (n : List UInt8) : objP n ≠ [] := by unfold objP; simp
theorem tmpP_ne : tmpP ≠ [] := by decide
theorem obj_tmp (n : List UInt8) : objP n ≠ tmpP := by unfold objP tmpP; simp
theorem stP_names (bs : List UInt8) : splitL 47 (stP bs) = [[115], [111], idL bs] := place_split (by decide) (nameB_sign (idL_name bs))

/-- Put: what its Read finds (7: it goes on), its Write and Move. -/
def preE (c : CSt) (b : List UInt8) : Int :=
  if redE c (stP b) = 0 then (if (redF c (stP b)).data = b then 0 else if idL (redF c (stP b)).data = idL b then 5 else 7) else redE c (stP b)
def wmE (c : CSt) (b : List UInt8) : Int := if crtE c tmpP 1 b false = 0 then movE (crtC c tmpP 1 b false) tmpP (stP b) false else crtE c tmpP 1 b false
def wmC (c : CSt) (b : List UInt8) : CSt := if crtE c tmpP 1 b false = 0 then movC (crtC c tmpP 1 b false) tmpP (stP b) false else crtC c tmpP 1 b false
def sptE (c : CSt) (b : List UInt8) : Int := if 20000 < b.length then 3 else if preE c b = 7 then wmE (bgC c).c b else preE c b
def sptC (c : CSt) (b : List UInt8) : CSt := if 20000 < b.length then c else if preE c b = 7 then wmC (bgC c).c b else (bgC c).c
def sptV (c : CSt) (b : List UInt8) : List UInt8 := if sptE c b = 0 then idL b else []
/-- List: the hashes just in "s/o". -/
def idsL (ps : List (List UInt8)) : List (List UInt8) := (ps.map (lastN objD)).filter validB
def slsV (c : CSt) : List (List UInt8) := if lisE c objD = 0 then idsL (lisO c objD) else []

theorem GoC.wm {c : CSt} {i : Nat} (h : GoC c i) (b : List UInt8) : GoC (wmC c b) (i + 2) := by
  unfold wmC
  split
  · exact (h.crt _ _ _ _).mov _ _ _
  · exact (h.crt _ _ _ _).upto (by omega)
theorem GoC.put {c : CSt} {i : Nat} (h : GoC c i) (b : List UInt8) : GoC (sptC c b) (i + 3) := by
  unfold sptC
  split
  · exact h.upto (by omega)
  · split
    · exact h.bg.wm b
    · exact h.bg.upto (by omega)

/-- A row, a change that may be. -/
def SRow (r : RowM) : Prop := r.path = tmpP ∨ r.path = stP r.f.data
def SCh (q : ChM) : Prop := (q.gone = [] ∧ q.path = tmpP) ∨ (q.gone = tmpP ∧ q.path = stP q.f.data)
def SRs (R : List RowM) : Prop := Ord R ∧ ∀ r ∈ R, SRow r
theorem SRs.apply {R : List RowM} (h : SRs R) {q : ChM} (hq : SCh q) : SRs (applyC R q) := by
  obtain ⟨g, p, f⟩ := q
  rcases hq with ⟨h1, h2⟩ | ⟨h1, h2⟩
  · dsimp only at h1 h2
    subst h1 h2
    rw [apply_put _ _ _ tmpP_ne]
    refine ⟨with_ord h.1 _ _, fun r hr => ?_⟩
    rcases mem_with.1 hr with rfl | ⟨hr, _⟩
    · exact .inl rfl
    · exact h.2 r hr
  · dsimp only at h1 h2
    subst h1 h2
    rw [apply_move _ _ _ _ tmpP_ne (show stP f.data ≠ [] from objP_ne _)]
    refine ⟨with_ord (without_ord h.1 _) _ _, fun r hr => ?_⟩
    rcases mem_with.1 hr with rfl | ⟨hr, _⟩
    · exact .inr rfl
    · exact h.2 r (mem_without.1 hr).1
theorem SRs.fold : ∀ {l : List ChM} {R : List RowM}, SRs R → (∀ q ∈ l, SCh q) → SRs (l.foldl applyC R)
  | [], _, h, _ => h
  | q :: l, R, h, hl => by
    rw [List.foldl_cons]
    exact SRs.fold (h.apply (hl q List.mem_cons_self)) (fun q hq => hl q (List.mem_cons_of_mem _ hq))
/-- Whatever goes wrong. -/
structure SInv (c : CSt) : Prop where
  rows : SRs c.durable
  pend : ∀ q ∈ c.pending, SCh q
  here : c.here = c.pending.foldl applyC c.durable
  plan : ∀ e ∈ c.plan, e.kind ≠ 4 ∧ e.kind ≠ 5
section
variable {c : CSt}
theorem SInv.new_ (room : Int) : SInv (newC room) := ⟨⟨List.Pairwise.nil, fun r hr => (by cases hr)⟩, fun q hq => (by cases hq), rfl, fun e he => (by cases he)⟩
theorem SInv.now (h : SInv c) : SRs c.here := by rw [h.here]; exact h.rows.fold h.pend
theorem SInv.same (h : SInv c) {c' : CSt} (h1 : c'.durable = c.durable) (h2 : c'.pending = c.pending) (h3 : c'.here = c.here) (h5 : ∀ e ∈ c'.plan, e.kind ≠ 4 ∧ e.kind ≠ 5) : SInv c' :=
  ⟨by rw [h1]; exact h.rows, by rw [h2]; exact h.pend, by rw [h3, h1, h2]; exact h.here, h5⟩
theorem left_sch (h : ∀ q ∈ c.pending, SCh q) (keep torn : Int) : ∀ q ∈ leftC c keep torn, SCh q := by
  intro q hq
  unfold leftC at hq
  rcases List.mem_append.1 hq with hm | hm
  · exact h q (List.mem_of_mem_take hm)
  · cases hx : c.pending[keepC c keep]? with
    | none => rw [hx] at hm; cases hm
    | some x =>
      rw [hx] at hm
      have hm' : q ∈ (if tearsB x torn = true then [partC x torn] else []) := hm
      split at hm'
      · rename_i ht
        rw [List.mem_singleton.1 hm']
        have hg : x.gone = [] := by
          unfold tearsB at ht
          simp only [Bool.and_eq_true, decide_eq_true_eq] at ht
          exact ht.1
        rcases h x (List.mem_of_getElem? hx) with ⟨h1, h2⟩ | ⟨h1, _⟩
        · exact .inl ⟨h1, h2⟩
        · rw [hg] at h1; exact absurd h1.symm tmpP_ne
      · cases hm'
theorem SInv.cr (h : SInv c) (keep torn : Int) : SInv (crC c keep torn) := by
  by_cases hd : c.down = true
  · have : crC c keep torn = c := by unfold crC; rw [if_pos hd]
    rw [this]
    exact h
  · have hd' : c.down = false := by simpa using hd
    have hg : SRs ((leftC c keep torn).foldl applyC c.durable) := h.rows.fold (left_sch h.pend keep torn)
    have h1 := crr_here hd' keep torn
    have h2 : (crC c keep torn).durable = (leftC c keep torn).foldl applyC c.durable ∧ (crC c keep torn).pending = [] ∧ (crC c keep torn).plan = c.plan := by
      unfold crC
      rw [if_neg hd]
      exact ⟨rfl, rfl, rfl⟩
    exact ⟨by rw [h2.1]; exact hg, by rw [h2.2.1]; exact fun q hq => (by cases hq), by rw [h1, h2.1, h2.2.1]; rfl, by rw [h2.2.2]; exact h.plan⟩
theorem SInv.ev {s : BgC} (h : SInv s.c) {e : EvM} (he : e.kind ≠ 4 ∧ e.kind ≠ 5) : SInv (evC s e).c := by
  have h0 : SInv { s.c with plan := s.c.plan.tail } := h.same rfl rfl rfl (fun e he => h.plan e (List.mem_of_mem_tail he))
  unfold evC
  split
  · exact h0.cr _ _
  · split
    · exact h0
    · split
      · exact h0
      · rw [if_neg he.1, if_neg he.2]
        exact h0
theorem SInv.bgk (h : SInv c) : ∀ k, SInv (bgK c k).c
  | 0 => h.same rfl rfl rfl h.plan
  | k + 1 => by
    cases hq : c.plan[k]? with
    | none => rw [bgK_more hq]; exact h.bgk k
    | some e => rw [bgK_next hq]; exact (h.bgk k).ev (h.plan e (List.mem_of_getElem? hq))
theorem SInv.bg (h : SInv c) : SInv (bgC c).c := h.bgk _
theorem SInv.do_ (h : SInv c) {q : ChM} (hq : SCh q) : SInv (doC c q) := by
  refine ⟨h.rows, fun x hx => ?_, ?_, h.plan⟩
  · rcases List.mem_append.1 hx with hx | hx
    · exact h.pend x hx
    · rw [List.mem_singleton.1 hx]; exact hq
  · show applyC c.here q = (c.pending ++ [q]).foldl applyC c.durable
    rw [List.foldl_append, ← h.here]
    rfl
theorem SInv.wr (h : SInv c) (b : List UInt8) (room : Int) : SInv (wrC c tmpP 1 b room false) := by
  unfold wrC
  split
  · exact h.do_ (.inl ⟨rfl, rfl⟩)
  · exact h
theorem SInv.crt (h : SInv c) (b : List UInt8) : SInv (crtC c tmpP 1 b false) := by
  unfold crtC
  split
  · exact h.bg.wr b _
  · exact h.bg
theorem SInv.mv (h : SInv c) {b : List UInt8} (hd : (peekF c.here tmpP).data = b) : SInv (mvC c tmpP (stP b) false) := by
  unfold mvC
  split
  · exact h.do_ (.inr ⟨rfl, by show stP b = stP (peekF c.here tmpP).data; rw [hd]⟩)
  · exact h
/-- It was up, if it is. -/
theorem bg_was : ∀ k, (bgK c k).c.down = false → c.down = false
  | 0, h => h
  | k + 1, h => by
    cases hq : c.plan[k]? with
    | none => rw [bgK_more hq] at h; exact bg_was k h
    | some e =>
      rw [bgK_next hq] at h
      refine bg_was k ?_
      generalize bgK c k = s at *
      cases hs : s.c.down with
      | false => rfl
      | true =>
        exfalso
        unfold evC at h
        split at h
        · dsimp only at h
          unfold crC at h
          rw [if_pos hs] at h
          dsimp only at h
          rw [hs] at h; cases h
        · split at h
          · dsimp only at h; rw [hs] at h; cases h
          · split at h
            · dsimp only at h; rw [hs] at h; cases h
            · split at h
              · dsimp only at h
                unfold uwC at h
                split at h
                · rename_i hx
                  simp [settleC, wrC, doC] at h
                  split at h <;> (first | (simp [hs] at h; done) | (rw [hs] at h; cases h))
                · rw [hs] at h; cases h
              · split at h
                · dsimp only at h
                  unfold urC at h
                  split at h
                  · simp [settleC, rmC, doC] at h
                    split at h <;> (first | (simp [hs] at h; done) | (rw [hs] at h; cases h))
                  · rw [hs] at h; cases h
                · dsimp only at h; rw [hs] at h; cases h
/-- What a call that may go on found. -/
theorem SInv.bg_same (h : SInv c) (hd : (bgC c).c.down = false) : c.down = false ∧ (bgC c).c.here = c.here := ⟨bg_was _ hd, (bg_files h.plan (bgN c) hd).1⟩
theorem SInv.crt_said (h : SInv c) {b : List UInt8} (he : crtE c tmpP 1 b false = 0) : (crtC c tmpP 1 b false).down = false ∧ peekB (crtC c tmpP 1 b false).here tmpP = true ∧ (peekF (crtC c tmpP 1 b false).here tmpP).data = b := by
  unfold crtE at he
  unfold crtC
  split at he
  · rename_i h0
    rw [if_pos h0]
    have h1 := bg_up h0
    have h2 := h.bg.now
    generalize (bgC c).c = s at *
    unfold wrC
    rw [if_pos he]
    show s.down = false ∧ peekB (applyC s.here ⟨[], tmpP, ⟨1, b, s.time + 1⟩⟩) tmpP = true ∧ (peekF (applyC s.here ⟨[], tmpP, ⟨1, b, s.time + 1⟩⟩) tmpP).data = b
    rw [apply_put _ _ _ tmpP_ne, peek_with, peekf_with h2.1]
    exact ⟨h1, by simp, rfl⟩
  · rename_i h0
    exact absurd he h0
theorem SInv.wm (h : SInv c) (b : List UInt8) : SInv (wmC c b) := by
  unfold wmC
  split
  · rename_i h0
    obtain ⟨h1, _, h2⟩ := h.crt_said h0
    have h3 := h.crt b
    generalize crtC c tmpP 1 b false = s at *
    unfold movC
    split
    · rename_i h4
      refine h3.bg.mv ?_
      rw [(h3.bg_same (bg_up h4)).2]
      exact h2
    · exact h3.bg
  · exact h.crt b
theorem SInv.put (h : SInv c) (b : List UInt8) : SInv (sptC c b) := by
  unfold sptC
  split
  · exact h
  · split
    · exact h.bg.wm b
    · exact h.bg
/-- A hash's place has something, while it is up. -/
def HasT (c : CSt) (t : List UInt8) : Prop := c.down = false → peekB c.here (objP t) = true
theorem HasT.bg {t : List UInt8} (h : SInv c) (ht : HasT c t) : HasT (bgC c).c t := fun hd => by
  obtain ⟨h1, h2⟩ := h.bg_same hd
  rw [h2]
  exact ht h1
theorem HasT.crt {t : List UInt8} (h : SInv c) (ht : HasT c t) (b : List UInt8) : HasT (crtC c tmpP 1 b false) t := by
  have h1 := ht.bg h
  unfold crtC
  split
  · generalize (bgC c).c = s at *
    unfold wrC
    split
    · intro hd
      show peekB (applyC s.here ⟨[], tmpP, ⟨1, b, s.time + 1⟩⟩) (objP t) = true
      rw [apply_put _ _ _ tmpP_ne, peek_with, h1 hd]
      simp
    · exact h1
  · exact h1
theorem HasT.mov {t : List UInt8} (h : SInv c) (ht : HasT c t) (b : List UInt8) : HasT (movC c tmpP (stP b) false) t := by
  have h1 := ht.bg h
  unfold movC
  split
  · generalize (bgC c).c = s at *
    unfold mvC
    split
    · intro hd
      show peekB (applyC s.here ⟨tmpP, stP b, peekF s.here tmpP⟩) (objP t) = true
      rw [apply_move _ _ _ _ tmpP_ne (show stP _ ≠ [] from objP_ne _), peek_with, peek_without, h1 hd]
      simp [obj_tmp]
    · exact h1
  · exact h1
theorem HasT.put {t : List UInt8} (h : SInv c) (ht : HasT c t) (b : List UInt8) : HasT (sptC c b) t := by
  unfold sptC
  split
  · exact ht
  · split
    · have h1 := ht.bg h
      have h2 := h.bg
      generalize (bgC c).c = s at *
      unfold wmC
      split
      · exact (h1.crt h2 b).mov (h2.crt b) b
      · exact h1.crt h2 b
    · exact ht.bg h
/-- A Put that says OK. -/
theorem SInv.said (h : SInv c) {b : List UInt8} (he : sptE c b = 0) : HasT (sptC c b) (idL b) := by
  unfold sptE at he
  unfold sptC
  split at he
  · cases he
  · rename_i h0
    rw [if_neg h0]
    split at he
    · rename_i h1
      rw [if_pos h1]
      have h2 := h.bg
      generalize (bgC c).c = s at *
      unfold wmE at he
      unfold wmC
      split at he
      · rename_i h3
        rw [if_pos h3]
        have h4 := h2.crt b
        generalize crtC s tmpP 1 b false = u at *
        unfold movE at he
        split at he
        · rename_i h5
          unfold movC
          rw [if_pos h5]
          generalize (bgC u).c = v at *
          unfold mvC
          rw [if_pos ⟨he, obj_tmp _⟩]
          intro _
          show peekB (applyC v.here ⟨tmpP, stP b, peekF v.here tmpP⟩) (objP (idL b)) = true
          rw [apply_move _ _ _ _ tmpP_ne (show stP _ ≠ [] from objP_ne _), peek_with]
          simp [stP]
        · rename_i h5
          exact absurd he h5
      · rename_i h3
        exact absurd he h3
    · rename_i h1
      rw [if_neg h1]
      intro _
      unfold preE at he
      split at he
      · rename_i h2
        unfold redE at h2
        split at h2
        · split at h2
          · cases h2
          · split at h2
            · rename_i h3
              exact h3
            · cases h2
        · rename_i h3
          exact absurd h2 h3
      · rename_i h2
        exact absurd he h2
/-- What stands there behind all. -/
theorem SInv.path (h : SInv c) {p : List UInt8} (hp : p ∈ pathsM c.here) : p = tmpP ∨ p = stP (peekF c.here p).data := by
  unfold pathsM at hp
  obtain ⟨r, hr, rfl⟩ := List.mem_map.1 hp
  rw [peek_is h.now.1 hr]
  exact h.now.2 r hr
theorem SInv.planned (h : SInv c) {R : List EvM} (hR : ∀ e ∈ R, e.kind ≠ 4 ∧ e.kind ≠ 5) : SInv { c with plan := R } := h.same rfl rfl rfl hR
end
/-- What the chapter's example fixes. -/
theorem under_obj (n : List UInt8) : underB tmpP (objP n) = false ∧ underB (objP n) tmpP = false := by
  refine ⟨?_, ?_⟩
  · cases h : underB tmpP (objP n) with
    | false => rfl
    | true =>
      have h1 := (under_in h).1
      unfold tmpP objP at h1
      simp at h1
  · cases h : underB (objP n) tmpP with
    | false => rfl
    | true =>
      have h1 := (under_in h).2
      unfold tmpP objP at h1
      simp at h1
theorem hit_obj (n : List UInt8) : hitC objD (objP n) = true := by
  unfold hitC prefB objD objP
  simp
theorem last_obj (n : List UInt8) : lastN objD (objP n) = n := by
  unfold lastN objD objP
  simp
theorem put_first (b : List UInt8) (hb : b.length ≤ 1000) : sptE (newC 1000) b = 0 ∧ sptE (sptC (newC 1000) b) b = 0 ∧ lisE (sptC (sptC (newC 1000) b) b) objD = 0 ∧ slsV (sptC (sptC (newC 1000) b) b) = [idL b] := by
  have hv := idL_valid b
  have hsp := stP_path b
  have c0 : Calm (newC 1000) := ⟨rfl, rfl⟩
  have hn : peekB (newC 1000).here (stP b) = false := rfl
  have r0 : redE (newC 1000) (stP b) = 7 := by rw [(c0.red hsp).1, hn]; rfl
  have p0 : preE (newC 1000) b = 7 := by unfold preE; rw [if_neg (by rw [r0]; decide), r0]
  have hlen : ¬ 20000 < b.length := by omega
  have e0 : sptE (newC 1000) b = wmE (Tx.tick (newC 1000)) b ∧ sptC (newC 1000) b = wmC (Tx.tick (newC 1000)) b := by
    unfold sptE sptC
    rw [if_neg hlen, if_neg hlen, if_pos p0, if_pos p0, c0.bg.1]
    exact ⟨rfl, rfl⟩
  obtain ⟨c1, hc1⟩ : ∃ x, Tx.tick (newC 1000) = x := ⟨_, rfl⟩
  have k1 : Calm c1 := by rw [← hc1]; exact c0.tick
  have t1 : CalmTo (newC 1000) c1 [] := by rw [← hc1]; exact c0.same.tick
  rw [hc1] at e0
  obtain ⟨w1, w2⟩ := k1.crt tmpP 1 b false
  have w3 : wrE c1 tmpP 1 b c1.room false = 0 := by
    unfold wrE
    rw [if_neg (by decide), if_neg (by omega), if_neg hlen, if_neg (by simp), t1.here, t1.room, if_neg (by decide), if_neg]
    show ¬ ((1000 : Int) < ((0 : Nat) : Int) - ((0 : Nat) : Int) + (b.length : Int))
    omega
  obtain ⟨f, hf⟩ : ∃ f : FileM, (⟨1, b, (Tx.tick c1).time + 1⟩ : FileM) = f := ⟨_, rfl⟩
  have hfd : f.data = b := by rw [← hf]
  have w4 : crtC c1 tmpP 1 b false = doC (Tx.tick c1) ⟨[], tmpP, f⟩ := by
    rw [w2]
    unfold wrC
    have w3' : wrE (Tx.tick c1) tmpP 1 b c1.room false = 0 := w3
    rw [if_pos w3', hf]
  have t2 : CalmTo (newC 1000) (doC (Tx.tick c1) ⟨[], tmpP, f⟩) [⟨tmpP, f⟩] := by
    have := t1.tick.do_ ⟨[], tmpP, f⟩
    rw [apply_put _ _ _ tmpP_ne] at this
    exact this
  rw [← w4] at t2
  have o2 : Ord [(⟨tmpP, f⟩ : RowM)] := List.pairwise_singleton _ _
  have q1 : peekB [(⟨tmpP, f⟩ : RowM)] tmpP = true := peek_yes (r := ⟨tmpP, f⟩) (List.mem_singleton.2 rfl)
  have q2 : peekF [(⟨tmpP, f⟩ : RowM)] tmpP = f := peek_is (r := ⟨tmpP, f⟩) o2 (List.mem_singleton.2 rfl)
  have e1 : wmE c1 b = movE (crtC c1 tmpP 1 b false) tmpP (stP b) false ∧ wmC c1 b = movC (crtC c1 tmpP 1 b false) tmpP (stP b) false := by
    unfold wmE wmC
    rw [if_pos (w1.trans w3), if_pos (w1.trans w3)]
    exact ⟨rfl, rfl⟩
  generalize crtC c1 tmpP 1 b false = c2 at *
  obtain ⟨v1, v2⟩ := t2.calm.mov tmpP (stP b) false
  have hm : mayC [(⟨tmpP, f⟩ : RowM)] (stP b) tmpP = true := by
    refine may_to (List.all_eq_true.2 fun r hr => ?_) (under_obj _).2
    rw [List.mem_singleton.1 hr]
    show (!(underB (stP b) tmpP || underB tmpP (stP b))) = true
    unfold stP
    rw [(under_obj _).1, (under_obj _).2]
    rfl
  have v3 : mvE c2 tmpP (stP b) false = 0 := by
    unfold mvE
    rw [if_neg (by rw [hsp]; decide), t2.here, if_neg (by rw [q1]; decide), if_neg (by simp), if_neg (show stP b ≠ tmpP from obj_tmp _), if_neg (by rw [hm]; decide)]
  have v4 : movC c2 tmpP (stP b) false = doC (Tx.tick c2) ⟨tmpP, stP b, f⟩ := by
    rw [v2]
    unfold mvC
    have v3' : mvE (Tx.tick c2) tmpP (stP b) false = 0 := v3
    have v5 : peekF (Tx.tick c2).here tmpP = f := by show peekF c2.here tmpP = f; rw [t2.here, q2]
    rw [if_pos ⟨v3', obj_tmp _⟩, v5]
  have t3 : CalmTo (newC 1000) (doC (Tx.tick c2) ⟨tmpP, stP b, f⟩) [⟨stP b, f⟩] := by
    have := t2.tick.do_ ⟨tmpP, stP b, f⟩
    rw [apply_move _ _ _ _ tmpP_ne (show stP _ ≠ [] from objP_ne _)] at this
    have hw : withoutM [(⟨tmpP, f⟩ : RowM)] tmpP = [] := by unfold withoutM; simp
    rw [hw] at this
    exact this
  rw [e0.1, e1.1, v1, v3, e0.2, e1.2, v4]
  generalize doC (Tx.tick c2) ⟨tmpP, stP b, f⟩ = c3 at *
  have o3 : Ord [(⟨stP b, f⟩ : RowM)] := List.pairwise_singleton _ _
  have u1 : peekB c3.here (stP b) = true := by rw [t3.here]; exact peek_yes (r := ⟨stP b, f⟩) (List.mem_singleton.2 rfl)
  have u2 : peekF c3.here (stP b) = f := by rw [t3.here]; exact peek_is (r := ⟨stP b, f⟩) o3 (List.mem_singleton.2 rfl)
  obtain ⟨r1, r2⟩ := t3.calm.red hsp
  rw [if_pos u1] at r1
  have p3 : preE c3 b = 0 := by unfold preE; rw [if_pos r1, r2, u2, if_pos hfd]
  have e3 : sptE c3 b = 0 ∧ sptC c3 b = Tx.tick c3 := by
    unfold sptE sptC
    rw [if_neg hlen, if_neg hlen, if_neg (by rw [p3]; decide), if_neg (by rw [p3]; decide), t3.calm.bg.1]
    exact ⟨p3, rfl⟩
  rw [e3.1, e3.2]
  have t4 := t3.tick
  obtain ⟨l1, l2⟩ := t4.calm.lis (dir := objD) (by decide)
  refine ⟨rfl, rfl, l1, ?_⟩
  unfold slsV
  rw [if_pos l1, l2, t4.here]
  unfold listC pathsM idsL
  rw [List.map_cons, List.map_nil, List.filter_cons, show hitC objD (⟨stP b, f⟩ : RowM).path = true from hit_obj _, if_pos rfl, List.filter_nil, List.map_cons, List.map_nil, List.filter_cons, show lastN objD (⟨stP b, f⟩ : RowM).path = idL b from last_obj _, if_pos hv, List.filter_nil]
end Go.Proofs.YtlgmbljfjfcpoaaGreat.Tx
