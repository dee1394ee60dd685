/- Texts put together: USc21, USc22, USc24, USc25. -/
import Derived.Test.YtbenkmihkbjgeaaGreatQu45
import Derived.Test.YtbenkmihkbjgeaaGreatQu37
import Derived.BigQuiet
import Derived.Test.YtbenkmihkbjgeaaGreatQu47
/- Package scan, plain: a table set at a path; what differs, done. (No Go in it.) -/
set_option linter.unusedVariables false
set_option linter.unusedSimpArgs false
namespace Go.Proofs.YtbenkmihkbjgeaaGreat.Tx
open Go.RowKit Go.Proofs.YtbenkmihkbjgeaaGreat.Sh
def setG (p : List UInt8) (e : Int × List UInt8) : Bool → List RwM → List RwM
 | d, [] => if d = true then [] else [⟨p, e.1, e.2⟩]
 | d, r :: l => (if d = false ∧ bl r.path p = false then [⟨p, e.1, e.2⟩] else []) ++ (if r.path = p then [] else [r]) ++ setG p e (d || !bl r.path p) l
def setM (l : List RwM) (p : List UInt8) (e : Int × List UInt8) : List RwM := setG p e (e.1 == 0) l
def Rises (l : List RwM) : Prop := l.Pairwise (fun x y => bl x.path y.path = true)
def Stands (l : List RwM) : Prop := ∀ r ∈ l, r.mode ≠ 0
theorem getM_cons (r : RwM) (l : List RwM) (p : List UInt8) : getM (r :: l) p = if r.path = p then (r.mode, r.id) else getM l p := by
 unfold getM
 by_cases h : r.path = p
 ·rw [if_pos h, List.find?_cons_of_pos (by simpa using h)]
 ·rw [if_neg h, List.find?_cons_of_neg (by simpa using h)]
theorem getM_mem {l : List RwM} {p : List UInt8} (h : (getM l p).1 ≠ 0) : ∃ r ∈ l, r.path = p := by
 unfold getM at h
 cases hf : l.find? (fun r => r.path == p) with
 | none => rw [hf] at h; exact absurd rfl h
 | some r => exact ⟨r, List.mem_of_find?_eq_some hf, by have := List.find?_some hf; simpa using this⟩
theorem table_ext : ∀ {a b : List RwM}, Rises a → Rises b → Stands a → Stands b → (∀ p, getM a p = getM b p) → a = b
 | [], [], _, _, _, _, _ => rfl
 | [], y :: b, _, hb, _, sb, h => by
  have h1 := h y.path
  rw [getM_cons, if_pos rfl] at h1
  exact absurd (congrArg (·.1) h1).symm (sb y (List.mem_cons_self))
 | x :: a, [], ha, _, sa, _, h => by
  have h1 := h x.path
  rw [getM_cons, if_pos rfl] at h1
  exact absurd (congrArg (·.1) h1) (sa x (List.mem_cons_self))
 | x :: a, y :: b, ha, hb, sa, sb, h => by
  have ha1 := List.pairwise_cons.1 ha
  have hb1 := List.pairwise_cons.1 hb
  have key : x.path = y.path := by
   rcases bl_tri x.path y.path with h1 | h1 | h1
   ·exfalso
    have h2 := h x.path
    rw [getM_cons, if_pos rfl] at h2
    have h3 : (getM (y :: b) x.path).1 ≠ 0 := by rw [← h2]; exact sa x (List.mem_cons_self)
    obtain ⟨r, hr, e⟩ := getM_mem h3
    rcases List.mem_cons.1 hr with rfl | hr
    ·rw [e, bl_irr] at h1; cases h1
    ·have h4 := bl_trans _ _ _ h1 (hb1.1 r hr)
     rw [e, bl_irr] at h4
     cases h4
   ·exact h1
   ·exfalso
    have h2 := h y.path
    rw [getM_cons (r := y), if_pos rfl] at h2
    have h3 : (getM (x :: a) y.path).1 ≠ 0 := by rw [h2]; exact sb y (List.mem_cons_self)
    obtain ⟨r, hr, e⟩ := getM_mem h3
    rcases List.mem_cons.1 hr with rfl | hr
    ·rw [e, bl_irr] at h1; cases h1
    ·have h4 := bl_trans _ _ _ h1 (ha1.1 r hr)
     rw [e, bl_irr] at h4
     cases h4
  have h1 := h x.path
  rw [getM_cons, if_pos rfl, getM_cons, if_pos key.symm] at h1
  have hx : x = y := by
   obtain ⟨xp, xm, xi⟩ := x
   obtain ⟨yp, ym, yi⟩ := y
   injection h1 with h2 h3
   dsimp only at key h2 h3
   rw [key, h2, h3]
  subst hx
  congr 1
  refine table_ext ha1.2 hb1.2 (fun r hr => sa r (List.mem_cons_of_mem _ hr)) (fun r hr => sb r (List.mem_cons_of_mem _ hr)) (fun p => ?_)
  have h2 := h p
  rw [getM_cons, getM_cons] at h2
  by_cases e : x.path = p
  ·have no : ∀ {l : List RwM}, (∀ r ∈ l, bl x.path r.path = true) → getM l p = (0, []) := fun {l} hl => by
    unfold getM
    cases hf : l.find? (fun r => r.path == p) with
    | none => rfl
    | some r =>
     have h3 := hl r (List.mem_of_find?_eq_some hf)
     have h4 : r.path = p := by have := List.find?_some hf; simpa using this
     rw [h4, ← e, bl_irr] at h3
     cases h3
   rw [no ha1.1, no hb1.1]
  ·rw [if_neg e, if_neg e] at h2
   exact h2
theorem setG_done (p : List UInt8) (e : Int × List UInt8) : ∀ l : List RwM, setG p e true l = l.filter fun r => !(r.path == p)
 | [] => rfl
 | r :: l => by
  show (if true = false ∧ _ then _ else []) ++ (if r.path = p then [] else [r]) ++ setG p e (true || !bl r.path p) l = _
  rw [if_neg (by simp), List.nil_append, Bool.true_or, setG_done p e l, List.filter_cons]
  by_cases h : r.path = p
  ·rw [if_pos h, if_neg (by simp [h])]; rfl
  ·rw [if_neg h, if_pos (by simp [h])]; rfl
theorem setG_mem {p : List UInt8} {e : Int × List UInt8} {x : RwM} : ∀ {d : Bool} {l : List RwM}, x ∈ setG p e d l → x ∈ l ∨ (d = false ∧ x = ⟨p, e.1, e.2⟩)
 | d, [], h => by
  have h1 : x ∈ (if d = true then [] else [(⟨p, e.1, e.2⟩ : RwM)]) := h
  cases d with
  | true => cases h1
  | false => exact .inr ⟨rfl, by simpa using h1⟩
 | d, r :: l, h => by
  have h1 : x ∈ (if d = false ∧ bl r.path p = false then [(⟨p, e.1, e.2⟩ : RwM)] else []) ++ (if r.path = p then [] else [r]) ++ setG p e (d || !bl r.path p) l := h
  rcases List.mem_append.1 h1 with h2 | h2
  ·rcases List.mem_append.1 h2 with h3 | h3
   ·split at h3
    ·rename_i h4
     exact .inr ⟨h4.1, by simpa using h3⟩
    ·cases h3
   ·split at h3
    ·cases h3
    ·exact .inl (by rw [List.mem_singleton.1 h3]; exact List.mem_cons_self)
  ·rcases setG_mem h2 with h3 | ⟨h3, h4⟩
   ·exact .inl (List.mem_cons_of_mem _ h3)
   ·refine .inr ⟨?_, h4⟩
    cases d with
    | true => simp at h3
    | false => rfl
theorem setG_get (p : List UInt8) (e : Int × List UInt8) (q : List UInt8) : ∀ (d : Bool) (l : List RwM), getM (setG p e d l) q = if p = q then (if d = true then (if p = q then (0, []) else getM l q) else e) else getM l q
 | true, l => by
  rw [setG_done]
  have h : ∀ l : List RwM, getM (l.filter fun r => !(r.path == p)) q = if p = q then (0, []) else getM l q := fun l => by
   induction l with
   | nil => simp [getM]
   | cons r l ih =>
    rw [List.filter_cons, getM_cons]
    by_cases h1 : r.path = p
    ·rw [if_neg (by simp [h1]), ih]
     by_cases h2 : p = q
     ·rw [if_pos h2, if_pos h2]
     ·rw [if_neg h2, if_neg h2, if_neg (fun h3 => h2 (h1 ▸ h3))]
    ·rw [if_pos (by simp [h1]), getM_cons, ih]
     by_cases h2 : p = q
     ·rw [if_pos h2, if_pos h2, if_neg (fun h3 => h1 (h3.trans h2.symm))]
     ·rw [if_neg h2, if_neg h2]
  rw [h l]
  by_cases h2 : p = q
  ·simp [h2]
  ·simp [h2]
 | false, [] => by
  show getM [(⟨p, e.1, e.2⟩ : RwM)] q = _
  rw [getM_cons]
  simp
 | false, r :: l => by
  show getM ((if false = false ∧ bl r.path p = false then [(⟨p, e.1, e.2⟩ : RwM)] else []) ++ (if r.path = p then [] else [r]) ++ setG p e (false || !bl r.path p) l) q = _
  cases hb : bl r.path p with
  | true =>
   have hne : r.path ≠ p := fun h => by rw [h, bl_irr] at hb; cases hb
   rw [if_neg (by simp), if_neg hne, List.nil_append]
   show getM (r :: setG p e false l) q = _
   rw [getM_cons, setG_get p e q false l, getM_cons]
   by_cases h2 : p = q
   ·have h5 : ¬ r.path = q := fun h => hne (h.trans h2.symm)
    simp only [if_neg h5, if_pos h2]
   ·rw [if_neg h2, if_neg h2]
  | false =>
   rw [if_pos ⟨rfl, rfl⟩]
   by_cases h2 : p = q
   ·simp only [if_pos h2, Bool.false_eq_true, if_false]
    show getM ((⟨p, e.1, e.2⟩ : RwM) :: _) q = e
    rw [getM_cons, if_pos h2]
   ·rw [if_neg h2, getM_cons]
    show getM ((⟨p, e.1, e.2⟩ : RwM) :: ((if r.path = p then [] else [r]) ++ setG p e true l)) q = _
    rw [getM_cons, if_neg h2]
    have ih := setG_get p e q true l
    rw [if_neg h2] at ih
    by_cases h3 : r.path = p
    ·rw [if_pos h3, List.nil_append, ih, if_neg (fun h => h2 (h3 ▸ h))]
    ·rw [if_neg h3]
     show getM (r :: setG p e true l) q = _
     rw [getM_cons, ih]
theorem setM_get (l : List RwM) (p q : List UInt8) (e : Int × List UInt8) (he : e.1 = 0 → e = (0, [])) : getM (setM l p e) q = if p = q then e else getM l q := by
 unfold setM
 rw [setG_get]
 by_cases h2 : p = q
 ·rw [if_pos h2, if_pos h2, if_pos h2]
  by_cases h0 : e.1 = 0
  ·rw [if_pos (by simpa using h0)]; exact (he h0).symm
  ·rw [if_neg (by simpa using h0)]
 ·rw [if_neg h2, if_neg h2]
theorem setG_rises {p : List UInt8} {e : Int × List UInt8} : ∀ {d : Bool} {l : List RwM}, Rises l → Rises (setG p e d l)
 | true, l, h => by rw [setG_done]; exact List.Pairwise.filter _ h
 | false, [], _ => List.pairwise_singleton _ _
 | false, r :: l, h => by
  have h1 := List.pairwise_cons.1 h
  show Rises ((if false = false ∧ bl r.path p = false then [(⟨p, e.1, e.2⟩ : RwM)] else []) ++ (if r.path = p then [] else [r]) ++ setG p e (false || !bl r.path p) l)
  cases hb : bl r.path p with
  | true =>
   have hne : r.path ≠ p := fun h => by rw [h, bl_irr] at hb; cases hb
   rw [if_neg (by simp), if_neg hne, List.nil_append]
   refine List.pairwise_cons.2 ⟨fun x hx => ?_, setG_rises h1.2⟩
   rcases setG_mem hx with hx | ⟨_, rfl⟩
   ·exact h1.1 x hx
   ·exact hb
  | false =>
   rw [if_pos ⟨rfl, rfl⟩]
   have hr : r.path = p ∨ bl p r.path = true := by
    rcases bl_tri r.path p with h2 | h2 | h2
    ·rw [h2] at hb; cases hb
    ·exact .inl h2
    ·exact .inr h2
   have hl : ∀ x ∈ setG p e true l, bl r.path x.path = true := fun x hx => by
    rcases setG_mem hx with hx | ⟨h9, _⟩
    ·exact h1.1 x hx
    ·cases h9
   show Rises ((⟨p, e.1, e.2⟩ : RwM) :: ((if r.path = p then [] else [r]) ++ setG p e true l))
   by_cases h3 : r.path = p
   ·rw [if_pos h3, List.nil_append]
    refine List.pairwise_cons.2 ⟨fun x hx => ?_, setG_rises h1.2⟩
    have := hl x hx
    rw [h3] at this
    exact this
   ·rw [if_neg h3]
    have h4 : bl p r.path = true := hr.resolve_left h3
    refine List.pairwise_cons.2 ⟨fun x hx => ?_, List.pairwise_cons.2 ⟨hl, setG_rises h1.2⟩⟩
    rcases List.mem_cons.1 hx with rfl | hx
    ·exact h4
    ·exact bl_trans _ _ _ h4 (hl x hx)
theorem setM_stands {l : List RwM} {p : List UInt8} {e : Int × List UInt8} (h : Stands l) : Stands (setM l p e) := fun x hx => by
 rcases setG_mem hx with hx | ⟨h1, rfl⟩
 ·exact h x hx
 ·have : ¬ e.1 = 0 := by simpa using h1
  exact this
end Go.Proofs.YtbenkmihkbjgeaaGreat.Tx
/- Package scan, plain: what differs, done, turned. (No Go in it.) -/
set_option linter.unusedVariables false
set_option linter.unusedSimpArgs false
namespace Go.Proofs.YtbenkmihkbjgeaaGreat.Tx
open Go.RowKit Go.Proofs.YtbenkmihkbjgeaaGreat.Sh
def doS (a : List RwM) (l : List CgM) : List RwM := l.foldl (fun now c => setM now c.path c.new) a
theorem doS_next {a : List RwM} {l : List CgM} {i : Nat} {c : CgM} (h : l[i]? = some c) : doS a (l.take (i + 1)) = setM (doS a (l.take i)) c.path c.new := by
 unfold doS
 rw [List.take_add_one, h, List.foldl_append]
 rfl
theorem getM_zero {b : List RwM} (h : Stands b) {p : List UInt8} (h0 : (getM b p).1 = 0) : getM b p = (0, []) := by
 unfold getM at h0 ⊢
 cases hf : b.find? (fun r => r.path == p) with
 | none => rfl
 | some r =>
  rw [hf] at h0
  exact absurd h0 (h r (List.mem_of_find?_eq_some hf))
theorem doS_all {b : List RwM} (hb : Stands b) : ∀ {l : List CgM} {a : List RwM}, (∀ c ∈ l, c.new = getM b c.path) → Rises a → Stands a →
  Rises (doS a l) ∧ Stands (doS a l) ∧ ∀ q, getM (doS a l) q = if q ∈ l.map (·.path) then getM b q else getM a q
 | [], a, _, h1, h2 => ⟨h1, h2, fun q => by simp [doS]⟩
 | c :: l, a, hc, h1, h2 => by
  have hn : c.new = getM b c.path := hc c List.mem_cons_self
  obtain ⟨g1, g2, g3⟩ := doS_all hb (l := l) (a := setM a c.path c.new) (fun x hx => hc x (List.mem_cons_of_mem _ hx)) (setG_rises h1) (setM_stands h2)
  refine ⟨g1, g2, fun q => ?_⟩
  show getM (doS (setM a c.path c.new) l) q = _
  rw [g3 q, setM_get _ _ _ _ (fun h0 => by rw [hn] at h0 ⊢; exact getM_zero hb h0)]
  by_cases e1 : q ∈ l.map (·.path)
  ·rw [if_pos e1, if_pos (by rw [List.map_cons]; exact List.mem_cons_of_mem _ e1)]
  ·rw [if_neg e1]
   by_cases e2 : c.path = q
   ·rw [if_pos e2, if_pos (by rw [List.map_cons, e2]; exact List.mem_cons_self), hn, e2]
   ·rw [if_neg e2, if_neg (by
     rw [List.map_cons]
     intro h
     rcases List.mem_cons.1 h with h | h
     ·exact e2 h.symm
     ·exact e1 h)]
theorem sameM_iff {x y : Int × List UInt8} : sameM x y = true ↔ x = y := by
 unfold sameM
 obtain ⟨a, b⟩ := x
 obtain ⟨c, d⟩ := y
 simp
theorem stsM_mem {a b : List RwM} {L : List ByteArray} {c : CgM} (h : c ∈ stsM a b L) : c.old = getM a c.path ∧ c.new = getM b c.path ∧ c.old ≠ c.new := by
 unfold stsM at h
 obtain ⟨h1, h2⟩ := List.mem_filter.1 h
 obtain ⟨x, _, rfl⟩ := List.mem_map.1 h1
 refine ⟨rfl, rfl, fun e => ?_⟩
 rw [sameM_iff.2 e] at h2
 cases h2
theorem stsM_in {a b : List RwM} {L : List ByteArray} {x : ByteArray} (hx : x ∈ L) (hn : getM a x.toList ≠ getM b x.toList) : x.toList ∈ (stsM a b L).map (·.path) := by
 refine List.mem_map.2 ⟨cgM a b x, List.mem_filter.2 ⟨List.mem_map.2 ⟨x, hx, rfl⟩, ?_⟩, rfl⟩
 show (!sameM (getM a x.toList) (getM b x.toList)) = true
 cases h : sameM (getM a x.toList) (getM b x.toList) with
 | true => exact absurd (sameM_iff.1 h) hn
 | false => rfl
theorem getM_path {a : List RwM} {p : List UInt8} (h : getM a p ≠ (0, [])) : Tx.str p ∈ pathsT a := by
 unfold getM at h
 cases hf : a.find? (fun r => r.path == p) with
 | none => rw [hf] at h; exact absurd rfl h
 | some r =>
  have h4 : r.path = p := by have := List.find?_some hf; simpa using this
  exact List.mem_map.2 ⟨r, List.mem_of_find?_eq_some hf, by rw [h4]⟩
theorem doS_turns {a b : List RwM} (ra : Rises a) (rb : Rises b) (sa : Stands a) (sb : Stands b) : doS a (stsM a b (uniqT (pathsT a ++ pathsT b))) = b := by
 obtain ⟨g1, g2, g3⟩ := doS_all sb (l := stsM a b (uniqT (pathsT a ++ pathsT b))) (a := a) (fun c hc => (stsM_mem hc).2.1) ra sa
 refine table_ext g1 rb g2 sb (fun q => ?_)
 rw [g3]
 split
 ·rfl
 ·rename_i hq
  by_cases e : getM a q = getM b q
  ·exact e
  ·exfalso
   apply hq
   have hm : Tx.str q ∈ uniqT (pathsT a ++ pathsT b) := by
    refine ((uniqT_spec _).2 _).2 (List.mem_append.2 ?_)
    by_cases e1 : getM a q = (0, [])
    ·exact .inr (getM_path (fun e2 => e (e1.trans e2.symm)))
    ·exact .inl (getM_path e1)
   have h := stsM_in (a := a) (b := b) hm (by rw [Tx.str_toList]; exact e)
   rw [Tx.str_toList] at h
   exact h
def turnC (c : CgM) : CgM := ⟨c.path, c.new, c.old⟩
theorem sameM_comm (x y : Int × List UInt8) : sameM x y = sameM y x := by
 cases h : sameM x y with
 | true => rw [sameM_iff.1 h]; exact (sameM_iff.2 rfl).symm
 | false =>
  cases h2 : sameM y x with
  | true => rw [sameM_iff.1 h2, sameM_iff.2 rfl] at h; cases h
  | false => rfl
theorem stsM_turn (a b : List RwM) : ∀ L : List ByteArray, stsM b a L = (stsM a b L).map turnC
 | [] => rfl
 | x :: l => by
  have ih : (l.map (cgM b a)).filter (fun c => !sameM c.old c.new) = ((l.map (cgM a b)).filter (fun c => !sameM c.old c.new)).map turnC := stsM_turn a b l
  have e : (!sameM (cgM b a x).old (cgM b a x).new) = (!sameM (cgM a b x).old (cgM a b x).new) := by rw [sameM_comm]; rfl
  show (cgM b a x :: l.map (cgM b a)).filter (fun c => !sameM c.old c.new) = ((cgM a b x :: l.map (cgM a b)).filter (fun c => !sameM c.old c.new)).map turnC
  rw [List.filter_cons, List.filter_cons, e]
  cases h : (!sameM (cgM a b x).old (cgM a b x).new) with
  | true => rw [if_pos rfl, if_pos rfl, List.map_cons, ih]; rfl
  | false => rw [if_neg (by decide), if_neg (by decide), ih]
theorem stsM_rises {a b : List RwM} {L : List ByteArray} (h : Strict L) : (stsM a b L).Pairwise (fun x y => bl x.path y.path = true) := by
 unfold stsM
 refine List.Pairwise.filter _ (List.pairwise_map.2 ?_)
 exact h
theorem uniq_turn (a b : List RwM) : uniqT (pathsT b ++ pathsT a) = uniqT (pathsT a ++ pathsT b) := uniqT_same (fun x => by rw [List.mem_append, List.mem_append]; exact Or.comm)
end Go.Proofs.YtbenkmihkbjgeaaGreat.Tx
/- Package scan's document: Set. -/
set_option linter.unusedVariables false
set_option linter.unusedSimpArgs false
namespace Go.Proofs.YtbenkmihkbjgeaaGreat.Tx
open Go.RowKit Go.Maps Go.Proofs.YtbenkmihkbjgeaaGreat.Sh S7
def setO (p : List UInt8) (e : Int × List UInt8) : Bool → List RwM → List RwM × Bool
 | d, [] => ([], d)
 | d, r :: l => ((if d = false ∧ bl r.path p = false then [⟨p, e.1, e.2⟩] else []) ++ (if r.path = p then [] else [r]) ++ (setO p e (d || !bl r.path p) l).1, (setO p e (d || !bl r.path p) l).2)
theorem setO_snoc (p : List UInt8) (e : Int × List UInt8) (r : RwM) : ∀ (d : Bool) (l : List RwM), setO p e d (l ++ [r]) = ((setO p e d l).1 ++ ((if (setO p e d l).2 = false ∧ bl r.path p = false then [⟨p, e.1, e.2⟩] else []) ++ (if r.path = p then [] else [r])), (setO p e d l).2 || !bl r.path p)
 | d, [] => by
  show ((if d = false ∧ bl r.path p = false then [(⟨p, e.1, e.2⟩ : RwM)] else []) ++ (if r.path = p then [] else [r]) ++ [], d || !bl r.path p) = _
  rw [List.append_nil]
  rfl
 | d, x :: l => by
  have ih := setO_snoc p e r (d || !bl x.path p) l
  show (_ ++ (setO p e (d || !bl x.path p) (l ++ [r])).1, (setO p e (d || !bl x.path p) (l ++ [r])).2) = _
  rw [ih]
  exact Prod.ext (List.append_assoc _ _ _).symm rfl
theorem setO_set (p : List UInt8) (e : Int × List UInt8) : ∀ (d : Bool) (l : List RwM), setG p e d l = (setO p e d l).1 ++ (if (setO p e d l).2 = true then [] else [⟨p, e.1, e.2⟩])
 | d, [] => rfl
 | d, r :: l => by
  have ih := setO_set p e (d || !bl r.path p) l
  show ((if d = false ∧ bl r.path p = false then [(⟨p, e.1, e.2⟩ : RwM)] else []) ++ (if r.path = p then [] else [r])) ++ setG p e (d || !bl r.path p) l = _
  rw [ih]
  exact (List.append_assoc _ _ _).symm
theorem setO_len (p : List UInt8) (e : Int × List UInt8) : ∀ (d : Bool) (l : List RwM), (setO p e d l).1.length ≤ 2 * l.length
 | d, [] => Nat.le_refl _
 | d, r :: l => by
  have ih := setO_len p e (d || !bl r.path p) l
  show (_ ++ _ ++ (setO p e (d || !bl r.path p) l).1).length ≤ _
  rw [List.length_append, List.length_append, List.length_cons]
  have h1 : (if d = false ∧ bl r.path p = false then [(⟨p, e.1, e.2⟩ : RwM)] else []).length ≤ 1 := by split <;> simp
  have h2 : (if r.path = p then ([] : List RwM) else [r]).length ≤ 1 := by split <;> simp
  omega
theorem append_rw {ops : Array Oper} {rest : List Oper} {o : Oper} {a : Act} {Q : Exit → Act → World → Prop} (hgd : o.guard = none) (s x : Operand)
  (ho : o.op = .call { callee := .builtin .append, args := #[s, x], argTypes := #[51, 51] }) (w : World) (B : Nat) (v : Value) (l : List RwM) (hs : a.eval s = v) (hown : OwnR 120 w B v l)
  (u : RwM) (hx : a.eval x = .slice (some ⟨w.heap.size, 0, none⟩) 1 1) (hsmall : l.length + 1 ≤ 2000000) (hB : B ≤ w.heap.size)
  (h : ∀ v' w', OwnR 120 w' B v' (l ++ [u]) → Below B w w' → wpList Tryz.prog ops Q rest (a.put o.dst v') w') : wpList Tryz.prog ops Q (o :: rest) a (w.alloc (.cells #[.string (Tx.str u.path), .int .i64 u.mode, .string (Tx.str u.id)] 120)) := by
 obtain ⟨i0, hi, hz0, hz1, hz2⟩ := info_parts info_srow
 obtain ⟨w2, hw2⟩ : ∃ W, W = w.alloc (.cells #[.string (Tx.str u.path), .int .i64 u.mode, .string (Tx.str u.id)] 120) := ⟨_, rfl⟩
 have hg : Blk w2 w.heap.size 120 #[.string (Tx.str u.path), .int .i64 u.mode, .string (Tx.str u.id)] := by rw [hw2]; exact heap_alloc_new w _
 have hsz : w2.heap.size = w.heap.size + 1 := by rw [hw2]; simp
 have hown2 : OwnR 120 w2 B v l := by rw [hw2]; exact hown.alloc _
 have hb2 : Below B w w2 := by rw [hw2]; exact (Below.refl _ _).alloc hB _
 rw [← hw2]
 clear hw2
 have hr : Reads w2 w2.heap.size 3 (some ⟨w.heap.size, 0, none⟩) 1 ([u].flatMap rwC) := by
  refine ⟨rfl, fun _ => ⟨_, rfl, hg.lt, fun j v hv => ?_⟩⟩
  rw [Addr.add_mid, Nat.zero_add]
  have hj : j < 3 := by have := (List.getElem?_eq_some_iff.1 hv).1; simpa [rwC] using this
  have h1 := hg.cell j
  rw [← hv]
  rw [h1]
  match j, hj with
  | 0, _ => rfl
  | 1, _ => rfl
  | 2, _ => rfl
 refine wpList_append_any w2 hgd s x 51 ho B 120 i0 (.agg #[.string ⟨#[]⟩, .int .i64 0, .string ⟨#[]⟩]) 3 40 Tryz.underlying51 hi hz0 hz1 hz2 rfl (by decide) v l.length _ hs hown2 w2.heap.size (some ⟨w.heap.size, 0, none⟩) 1 1 _ hx hr (rwC_one [u]) (by unfold maxLen; omega) (by omega) (by omega) ?_
 intro v' w' h1 h2 h3
 refine h v' w' ?_ (hb2.trans ((Below.refl _ _).grown h2 (by omega) (fun k hk => (hown2.lt k hk).1)))
 unfold OwnR
 rw [List.length_append, List.flatMap_append]
 exact h1
end Go.Proofs.YtbenkmihkbjgeaaGreat.Tx
/- Package scan's document: Set, the walk. -/
set_option linter.unusedVariables false
set_option linter.unusedSimpArgs false
namespace Go.Proofs.YtbenkmihkbjgeaaGreat.Tx
open Go.RowKit Go.Maps Go.Proofs.YtbenkmihkbjgeaaGreat.Sh S7
def SetP (l : List RwM) (p : List UInt8) (e0 : Int × List UInt8) (w : World) (e : Ending) (w' : World) : Prop := ∃ v, e = .returned v ∧ OwnR 120 w' w.heap.size v (setM l p e0) ∧ Below w.heap.size w w'
set_option maxRecDepth 100000 in
set_option maxHeartbeats 3200000 in
theorem rset_any (v : Value) (l : List RwM) (p : List UInt8) (em : Int) (ei : List UInt8) (w : World) (h : SlR w v l) (hlen : l.length ≤ 1000) : Calls Tryz.prog 29 #[v, .string (Tx.str p), .agg #[.int .i64 em, .string (Tx.str ei)]] w (SetP l p (em, ei) w) := by
 have H := Lib.hid h
 obtain ⟨A, c, rfl, hlc, hcm, _, _⟩ := h
 obtain ⟨n, hn⟩ : ∃ n, l.length = n := ⟨_, rfl⟩
 have HN := Lib.hid hn
 rw [hn] at hlc hlen H ⊢
 unfold maxLen at hcm
 obtain ⟨d0, hd0⟩ : ∃ d, ((em, ei).1 == (0 : Int)) = d := ⟨_, rfl⟩
 have HD0 := Lib.hid hd0
 have hd1 : (em == 0) = d0 := hd0
 have HE1 : Hid (setM l p (em, ei) = (setO p (em, ei) d0 (l.take n)).1 ++ (if (setO p (em, ei) d0 (l.take n)).2 = true then [] else [⟨p, em, ei⟩])) := by
  unfold Hid setM
  rw [HD0.out, setO_set, List.take_of_length_le (Nat.le_of_eq hn)]
 clear hn hd0
 go_enter Tryz.func29, Tryz.ntmps29
 go_upto_region 1 with (fail)
 obtain ⟨w1, hw1⟩ : ∃ W, W = w.alloc (.cells #[.int .i64 em, .string (Tx.str ei)] 70) := ⟨_, rfl⟩
 obtain ⟨g, hg⟩ : ∃ k, k = w.heap.size := ⟨_, rfl⟩
 rw [← hw1]
 try rw [← hg]
 have HB1 : Hid (Below w.heap.size w w1) := by unfold Hid; rw [hw1]; exact (Below.refl _ _).alloc (Nat.le_refl _) _
 have HK : Hid (Blk w1 g 70 #[.int .i64 em, .string (Tx.str ei)]) := by unfold Hid; rw [hw1, hg]; exact heap_alloc_new w _
 have k0 := HK.out.cell 0
 clear hw1 hg
 go_wp2_with fail
 go_loopw [7, 8, 9] (fun o dn x wr => ∃ (i : Nat) (acc : Value), i ≤ n ∧ o = acc ∧ dn = .bool (setO p (em, ei) d0 (l.take i)).2 ∧ x = .int .i64 (i : Int) ∧ OwnR 120 wr w1.heap.size acc (setO p (em, ei) d0 (l.take i)).1 ∧ Below w1.heap.size w1 wr) (fun _ _ x _ => n - (intOf x).toNat)
 case atStart => exact ⟨0, _, Nat.zero_le _, rfl, rfl, rfl, OwnR.nil_ _ _ _, Below.refl _ _⟩
 case round =>
  obtain ⟨i, acc, hi, rfl, rfl, rfl, hov, hb⟩ := hrel
  have HB := Lib.hid hb
  have HOV := Lib.hid hov
  clear hb hov
  have z0 : (0 : Int) ≤ (i : Int) := by omega
  have HLN : Hid ((setO p (em, ei) d0 (l.take i)).1.length ≤ 2000) := by
   have h9 := setO_len p (em, ei) d0 (l.take i)
   rw [List.length_take] at h9
   unfold Hid
   omega
  have hz8 := HK.out.below HB.out HK.out.lt
  have HZ8 := Lib.hid hz8
  have k0 := hz8.cell 0
  have k1 := hz8.cell 1
  obtain ⟨dn, hdn⟩ : ∃ d, (setO p (em, ei) d0 (l.take i)).2 = d := ⟨_, rfl⟩
  have HDN := Lib.hid hdn
  rw [hdn]
  clear hdn hz8
  by_cases hlt : i < n
  ·have z1 : (i : Int) < (n : Int) := by omega
   have hil : i < l.length := by have := HN.out; omega
   obtain ⟨r, hr⟩ : ∃ r, l[i] = r := ⟨_, rfl⟩
   have HGR : Hid (l[i]? = some r) := by unfold Hid; rw [List.getElem?_eq_getElem hil, hr]
   have HSN : Hid (setO p (em, ei) d0 (l.take (i + 1)) = ((setO p (em, ei) d0 (l.take i)).1 ++ ((if (setO p (em, ei) d0 (l.take i)).2 = false ∧ bl r.path p = false then [⟨p, em, ei⟩] else []) ++ (if r.path = p then [] else [r])), (setO p (em, ei) d0 (l.take i)).2 || !bl r.path p)) := by
    unfold Hid
    rw [List.take_add_one, HGR.out]
    exact setO_snoc p (em, ei) r d0 (l.take i)
   have HRW : Hid (∀ W, Below w1.heap.size w1 W → ∃ ad, A = some ad ∧ W.cell? (ad.add (i * 3)) = some (.string (Tx.str r.path)) ∧ W.cell? ⟨(ad.add (i * 3)).block, (ad.add (i * 3)).off + 1, none⟩ = some (.int .i64 r.mode) ∧ W.cell? ⟨(ad.add (i * 3)).block, (ad.add (i * 3)).off + 2, none⟩ = some (.string (Tx.str r.id))) := fun W hW => by
    have hw := H.out.below (HB1.out.trans (hW.mono HB1.out.size))
    obtain ⟨A', c', he, _, _, _, hrd⟩ := hw
    injection he with he1 he2 he3
    subst he1
    exact rows_at hrd rfl i r HGR.out
   obtain ⟨ad, rfl, x0, x1, x2⟩ := HRW.out wr HB.out
   clear hil hr
   obtain ⟨gb, hgb⟩ : ∃ t, bl r.path p = t := ⟨_, rfl⟩
   have HGB := Lib.hid hgb
   have hge : Op.bytesLess (Tx.str r.path).toList (Tx.str p).toList = gb := by rw [Tx.str_toList, Tx.str_toList]; exact hgb
   clear hgb
   have hsm : (setO p (em, ei) d0 (l.take i)).1.length + 1 ≤ 2000000 := by have := HLN.out; omega
   have hwz : w1.heap.size ≤ wr.heap.size := HB.out.size
   have HS0 := Lib.hid HSN.out
   rw [HDN.out, HGB.out] at HS0
   obtain ⟨rp, rm, ri⟩ := r
   dsimp only at x0 x1 x2 hge
   cases dn with
   | false =>
    cases gb with
    | false =>
     by_cases hq : rp = p
     ·have HSF : Hid (setO p (em, ei) d0 (l.take (i + 1)) = ((setO p (em, ei) d0 (l.take i)).1 ++ [⟨p, em, ei⟩], true)) := by
       have h9 := HS0.out
       unfold Hid
       rw [h9]
       simp [hq]
      have y9 := str_same hq
      clear hq
      go_wp2_with (at_builtin; refine append_rw rfl (.tmp 30) (.tmp 34) rfl wr w1.heap.size u7 _ rfl HOV.out ⟨p, em, ei⟩ rfl hsm hwz ?_; intro v4 w4 ho4 hb4; have HO4 := Lib.hid ho4; have HB4 := Lib.hid (HB.out.trans hb4); have hwz4 := HB4.out.size; obtain ⟨ad', e', y0, y1, y2⟩ := HRW.out w4 HB4.out; injection e' with e'; subst e'; clear ho4 hb4)
      go_roundw
      case rel => exact ⟨i + 1, v4, by omega, rfl, by rw [HSF.out], by go_num, by rw [HSF.out]; exact HO4.out, HB4.out⟩
      case measure => simp [intOf]; omega
     ·have HSF : Hid (setO p (em, ei) d0 (l.take (i + 1)) = ((setO p (em, ei) d0 (l.take i)).1 ++ [⟨p, em, ei⟩] ++ [⟨rp, rm, ri⟩], true)) := by
       have h9 := HS0.out
       unfold Hid
       rw [h9]
       simp [hq]
      have y9 := str_nsame hq
      clear hq
      go_wp2_with (first
       | (at_builtin; refine append_rw rfl (.tmp 30) (.tmp 34) rfl wr w1.heap.size u7 _ rfl HOV.out ⟨p, em, ei⟩ rfl hsm hwz ?_; intro v4 w4 ho4 hb4; have HO4 := Lib.hid ho4; have HB4 := Lib.hid (HB.out.trans hb4); have hwz4 := HB4.out.size; obtain ⟨ad', e', y0, y1, y2⟩ := HRW.out w4 HB4.out; injection e' with e'; subst e'; clear ho4 hb4)
       | (at_builtin; refine append_rw rfl (.tmp 43) (.tmp 48) rfl w4 w1.heap.size v4 _ rfl HO4.out ⟨rp, rm, ri⟩ rfl (by rw [List.length_append]; have := HLN.out; simp only [List.length_cons, List.length_nil]; omega) hwz4 ?_; intro v5 w5 ho5 hb5; have HO5 := Lib.hid ho5; have HB5 := Lib.hid (HB4.out.trans hb5); clear ho5 hb5))
      go_roundw
      case rel => exact ⟨i + 1, v5, by omega, rfl, by rw [HSF.out], by go_num, by rw [HSF.out]; exact HO5.out, HB5.out⟩
      case measure => simp [intOf]; omega
    | true =>
     have hq : rp ≠ p := fun h => by have h3 := HGB.out; dsimp only at h3; rw [h, bl_irr] at h3; cases h3
     have HSF : Hid (setO p (em, ei) d0 (l.take (i + 1)) = ((setO p (em, ei) d0 (l.take i)).1 ++ [⟨rp, rm, ri⟩], false)) := by
      have h9 := HS0.out
      unfold Hid
      rw [h9]
      simp [hq]
     have y9 := str_nsame hq
     clear hq
     go_wp2_with (at_builtin; refine append_rw rfl (.tmp 43) (.tmp 48) rfl wr w1.heap.size u7 _ rfl HOV.out ⟨rp, rm, ri⟩ rfl hsm hwz ?_; intro v5 w5 ho5 hb5; have HO5 := Lib.hid ho5; have HB5 := Lib.hid (HB.out.trans hb5); clear ho5 hb5)
     go_roundw
     case rel => exact ⟨i + 1, v5, by omega, rfl, by rw [HSF.out], by go_num, by rw [HSF.out]; exact HO5.out, HB5.out⟩
     case measure => simp [intOf]; omega
   | true =>
    by_cases hq : rp = p
    ·have HSF : Hid (setO p (em, ei) d0 (l.take (i + 1)) = ((setO p (em, ei) d0 (l.take i)).1, true)) := by
      have h9 := HS0.out
      unfold Hid
      rw [h9]
      simp [hq]
     have y9 := str_same hq
     clear hq
     go_wp2_with fail
     go_roundw
     case rel => exact ⟨i + 1, u7, by omega, rfl, by rw [HSF.out], by go_num, by rw [HSF.out]; exact HOV.out, HB.out⟩
     case measure => simp [intOf]; omega
    ·have HSF : Hid (setO p (em, ei) d0 (l.take (i + 1)) = ((setO p (em, ei) d0 (l.take i)).1 ++ [⟨rp, rm, ri⟩], true)) := by
      have h9 := HS0.out
      unfold Hid
      rw [h9]
      simp [hq]
     have y9 := str_nsame hq
     clear hq
     go_wp2_with (at_builtin; refine append_rw rfl (.tmp 43) (.tmp 48) rfl wr w1.heap.size u7 _ rfl HOV.out ⟨rp, rm, ri⟩ rfl hsm hwz ?_; intro v5 w5 ho5 hb5; have HO5 := Lib.hid ho5; have HB5 := Lib.hid (HB.out.trans hb5); clear ho5 hb5)
     go_roundw
     case rel => exact ⟨i + 1, v5, by omega, rfl, by rw [HSF.out], by go_num, by rw [HSF.out]; exact HO5.out, HB5.out⟩
     case measure => simp [intOf]; omega
  ·obtain rfl : i = n := by omega
   cases dn with
   | true =>
    go_wp2_with fail
    go_ret
    exact ⟨_, rfl, by rw [HE1.out, HDN.out, if_pos rfl, List.append_nil]; exact HOV.out.base HB1.out.size, HB1.out.trans (HB.out.mono HB1.out.size)⟩
   | false =>
    have hwz : w1.heap.size ≤ wr.heap.size := HB.out.size
    have hsm : (setO p (em, ei) d0 (l.take i)).1.length + 1 ≤ 2000000 := by have := HLN.out; omega
    go_wp2_with (at_builtin; refine append_rw rfl (.tmp 52) (.tmp 56) rfl wr w1.heap.size u7 _ rfl HOV.out ⟨p, em, ei⟩ rfl hsm hwz ?_; intro v4 w4 ho4 hb4; have HO4 := Lib.hid ho4; have HB4 := Lib.hid (HB.out.trans hb4); clear ho4 hb4)
    go_ret
    exact ⟨_, rfl, by rw [HE1.out, HDN.out, if_neg (by decide)]; exact HO4.out.base HB1.out.size, HB1.out.trans (HB4.out.mono HB1.out.size)⟩
end Go.Proofs.YtbenkmihkbjgeaaGreat.Tx
