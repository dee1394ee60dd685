/- Texts put together: URf1, UHm0, URf2, URf3, USr1, USc0, USc0b. -/
import Derived.Test.YtbenkmihkbjgeaaGreatQu18
import Derived.Test.YtbenkmihkbjgeaaGreatQu23
import Derived.Test.YtbenkmihkbjgeaaGreatQu17
/- Package refs, as plain data. (No Go in it.) -/
set_option linter.unusedVariables false
set_option linter.unusedSimpArgs false
namespace Go.Proofs.YtbenkmihkbjgeaaGreat.Tx
open Go.RowKit Go.Proofs.YtbenkmihkbjgeaaGreat.Sh
def refP (n : List UInt8) : List UInt8 := 115 :: 47 :: 114 :: 47 :: n
def lockP (n : List UInt8) : List UInt8 := 115 :: 47 :: 108 :: 47 :: n
def validB (cs : List UInt8) : Bool := cs.length == 64 && hexOk cs
theorem valid_len {cs : List UInt8} (h : validB cs = true) : cs.length = 64 := by
 unfold validB at h
 simp at h
 exact h.1
def expE (c : CSt) (n old : List UInt8) : Int :=
 if redE c (refP n) = 7 then (if old = [] then 0 else 13)
 else if redE c (refP n) ≠ 0 then redE c (refP n)
 else if old = [] ∨ (redF c (refP n)).data ≠ old ++ [10] then 13 else 0
def prepE (c : CSt) (n old : List UInt8) : Int := if expE c n old = 0 then bgE (bgC c).c else expE c n old
def prepC (c : CSt) (n old : List UInt8) : CSt := if expE c n old = 0 then synC (bgC c).c else (bgC c).c
def slE (c : CSt) (n old : List UInt8) : Int :=
 if prepE c n old = 0 then
  (if movE (prepC c n old) (lockP n) (refP n) false = 0 then bgE (movC (prepC c n old) (lockP n) (refP n) false) else movE (prepC c n old) (lockP n) (refP n) false)
 else prepE c n old
def slC (c : CSt) (n old : List UInt8) : CSt :=
 if prepE c n old = 0 then
  (if movE (prepC c n old) (lockP n) (refP n) false = 0 then synC (movC (prepC c n old) (lockP n) (refP n) false) else movC (prepC c n old) (lockP n) (refP n) false)
 else remC (prepC c n old) (lockP n)
def setE (c : CSt) (n old new : List UInt8) : Int :=
 if nameB n = false then 6 else if validB new = false ∨ (old ≠ [] ∧ validB old = false) then 1
 else if crtE c (lockP n) 1 (new ++ [10]) true = 0 then slE (crtC c (lockP n) 1 (new ++ [10]) true) n old
 else if crtE c (lockP n) 1 (new ++ [10]) true = 8 then 13 else crtE c (lockP n) 1 (new ++ [10]) true
def setC (c : CSt) (n old new : List UInt8) : CSt :=
 if nameB n = false then c else if validB new = false ∨ (old ≠ [] ∧ validB old = false) then c
 else if crtE c (lockP n) 1 (new ++ [10]) true = 0 then slC (crtC c (lockP n) 1 (new ++ [10]) true) n old
 else crtC c (lockP n) 1 (new ++ [10]) true
def hinB (d : List UInt8) : Bool := [10].isSuffixOf d && validB (d.take (d.length - 1))
def hinV (d : List UInt8) : List UInt8 := if hinB d = true then d.take (d.length - 1) else []
def getE (c : CSt) (n : List UInt8) : Int :=
 if nameB n = false then 6 else if redE c (refP n) ≠ 0 then redE c (refP n) else if hinB (redF c (refP n)).data = false then 4 else 0
def getV (c : CSt) (n : List UInt8) : List UInt8 := if getE c n = 0 then hinV (redF c (refP n)).data else []
def getC (c : CSt) (n : List UInt8) : CSt := if nameB n = false then c else (bgC c).c
def delE (c : CSt) (n old : List UInt8) : Int :=
 if nameB n = false then 6 else if validB old = false then 1
 else if redE c (refP n) ≠ 0 then redE c (refP n) else if (redF c (refP n)).data ≠ old ++ [10] then 13
 else if remE (bgC c).c (refP n) = 0 then bgE (remC (bgC c).c (refP n)) else remE (bgC c).c (refP n)
def delC (c : CSt) (n old : List UInt8) : CSt :=
 if nameB n = false then c else if validB old = false then c
 else if redE c (refP n) ≠ 0 then (bgC c).c else if (redF c (refP n)).data ≠ old ++ [10] then (bgC c).c
 else if remE (bgC c).c (refP n) = 0 then synC (remC (bgC c).c (refP n)) else remC (bgC c).c (refP n)
def lastN (dir p : List UInt8) : List UInt8 := if (dir ++ [47]).isPrefixOf p then p.drop (dir.length + 1) else p
def nmsL (dir : List UInt8) (ps : List (List UInt8)) : List (List UInt8) := (ps.map (lastN dir)).filter nameB
def rlsE (c : CSt) (dir : List UInt8) : Int := lisE c dir
def rlsV (c : CSt) (dir : List UInt8) : List (List UInt8) := if lisE c dir = 0 then nmsL dir (lisO c dir) else []
def unlC : CSt → List (List UInt8) → CSt
 | c, [] => c
 | c, n :: l => if remE c (lockP n) = 0 then unlC (remC c (lockP n)) l else remC c (lockP n)
def unlE : CSt → List (List UInt8) → Int
 | _, [] => 0
 | c, n :: l => if remE c (lockP n) = 0 then unlE (remC c (lockP n)) l else remE c (lockP n)
end Go.Proofs.YtbenkmihkbjgeaaGreat.Tx
/- Package fsim as the program keeps it, as plain data: what holds of it whatever is called. (No Go in it.) -/
set_option linter.unusedVariables false
set_option linter.unusedSimpArgs false
namespace Go.Proofs.YtbenkmihkbjgeaaGreat.Tx
def ChOk (R : List RowM) (q : ChM) (t : Int) : Prop := q.gone = [] → q.path ≠ [] → pathB q.path = true ∧ (1 ≤ q.f.mode ∧ q.f.mode ≤ 3) ∧ q.f.data.length ≤ 20000 ∧ q.f.time ≤ t ∧ mayM R q.path = true
structure InvC (c : CSt) : Prop where
 here : c.here = foldC c.durable c.pending c.pending.length
 ok : ∀ k, RowsOk (foldC c.durable c.pending k) c.time
 ch : ∀ k q, c.pending[k]? = some q → ChOk (foldC c.durable c.pending k) q c.time
/-! The room is kept but for what users write. -/
def KeptC (c : CSt) : Prop := c.users ≠ [] ∨ ∀ k, (usedM (foldC c.durable c.pending k) : Int) ≤ max c.room 0
structure PlanR (c : CSt) (l : List EvM) (R : List EvM) : Prop where
 len : R.length = (l.filter fun e => decide (c.calls < e.at_)).length
 mem : ∀ e ∈ R, e ∈ l ∧ c.calls < e.at_
def DoesR (c : CSt) (o : LOp) (c' : CSt) : Prop := (o.kind ≠ 12 → c' = doesC c o) ∧ (o.kind = 12 → ∃ R, PlanR c o.plan R ∧ c' = { c with plan := R })
end Go.Proofs.YtbenkmihkbjgeaaGreat.Tx
/- Package refs, as plain data: its places; calls where nothing is planned. (No Go in it.) -/
set_option linter.unusedVariables false
set_option linter.unusedSimpArgs false
namespace Go.Proofs.YtbenkmihkbjgeaaGreat.Tx
open Go.RowKit Go.Proofs.YtbenkmihkbjgeaaGreat.Sh
structure Calm (c : CSt) : Prop where
 plan : c.plan = []
 down : c.down = false
def tick (c : CSt) : CSt := { c with calls := c.calls + 1 }
structure CalmTo (c c' : CSt) (R : List RowM) : Prop where
 calm : Calm c'
 here : c'.here = R
 room : c'.room = c.room
 users : c'.users = c.users
end Go.Proofs.YtbenkmihkbjgeaaGreat.Tx
/- Package refs, as plain data: whatever goes wrong within Set. (No Go in it.) -/
set_option linter.unusedVariables false
set_option linter.unusedSimpArgs false
namespace Go.Proofs.YtbenkmihkbjgeaaGreat.Tx
open Go.RowKit Go.Proofs.YtbenkmihkbjgeaaGreat.Sh
def hdN : List UInt8 := [104, 101, 97, 100]
def otN : List UInt8 := [111, 116, 104, 101, 114]
structure Good (a b o : List UInt8) (R : List RowM) : Prop where
 ord : Ord R
 rows : ∀ r ∈ R, (r.path = refP otN ∧ r.f.data = o ++ [10]) ∨ (r.path = refP hdN ∧ ((a ≠ [] ∧ r.f.data = a ++ [10]) ∨ r.f.data = b ++ [10])) ∨ (r.path = lockP hdN ∧ r.f.data.length ≤ 65)
 other : peekB R (refP otN) = true
 head : a ≠ [] → peekB R (refP hdN) = true
def ChG (b : List UInt8) (q : ChM) : Prop := (q.gone = [] ∧ q.path = lockP hdN ∧ q.f.data.length ≤ 65) ∨ (q.gone = lockP hdN ∧ q.path = []) ∨ (q.gone = lockP hdN ∧ q.path = refP hdN ∧ q.f.data = b ++ [10])
section
variable {a b o : List UInt8} {R : List RowM}
end
structure JInv (a b o : List UInt8) (c : CSt) : Prop where
 good : Good a b o c.durable
 pend : ∀ q ∈ c.pending, ChG b q
 here : c.here = c.pending.foldl applyC c.durable
 lock : c.down = false → peekB c.here (lockP hdN) = true → (peekF c.here (lockP hdN)).data = b ++ [10]
 plan : ∀ e ∈ c.plan, e.kind ≠ 4 ∧ e.kind ≠ 5
section
variable {a b o : List UInt8} {c : CSt}
end
def isB (R : List RowM) (n id : List UInt8) : Bool := if id = [] then !peekB R (refP n) else peekB R (refP n) && decide ((peekF R (refP n)).data = id ++ [10])
end Go.Proofs.YtbenkmihkbjgeaaGreat.Tx
/- Package store, as plain data; what holds of it whatever goes wrong but for users. (No Go in it.) -/
set_option linter.unusedVariables false
set_option linter.unusedSimpArgs false
namespace Go.Proofs.YtbenkmihkbjgeaaGreat.Tx
open Go.RowKit Go.Proofs.YtbenkmihkbjgeaaGreat.Sh
def objP (n : List UInt8) : List UInt8 := 115 :: 47 :: 111 :: 47 :: n
def tmpP : List UInt8 := [115, 47, 116]
def objD : List UInt8 := [115, 47, 111]
theorem objP_len (n : List UInt8) : (objP n).length = n.length + 4 := rfl
def idL (bs : List UInt8) : List UInt8 := hexL (sumOf bs)
theorem idL_valid (bs : List UInt8) : validB (idL bs) = true := by
 unfold validB idL
 rw [hexOk_hexL, hexL_length, sumOf_length]
 rfl
theorem idL_len (bs : List UInt8) : (idL bs).length = 64 := valid_len (idL_valid bs)
def stP (bs : List UInt8) : List UInt8 := objP (idL bs)
def preE (c : CSt) (b : List UInt8) : Int :=
 if redE c (stP b) = 0 then (if (redF c (stP b)).data = b then 0 else if idL (redF c (stP b)).data = idL b then 5 else 7) else redE c (stP b)
def wmE (c : CSt) (b : List UInt8) : Int := if crtE c tmpP 1 b false = 0 then movE (crtC c tmpP 1 b false) tmpP (stP b) false else crtE c tmpP 1 b false
def wmC (c : CSt) (b : List UInt8) : CSt := if crtE c tmpP 1 b false = 0 then movC (crtC c tmpP 1 b false) tmpP (stP b) false else crtC c tmpP 1 b false
def sptE (c : CSt) (b : List UInt8) : Int := if 20000 < b.length then 3 else if preE c b = 7 then wmE (bgC c).c b else preE c b
def sptC (c : CSt) (b : List UInt8) : CSt := if 20000 < b.length then c else if preE c b = 7 then wmC (bgC c).c b else (bgC c).c
def sptV (c : CSt) (b : List UInt8) : List UInt8 := if sptE c b = 0 then idL b else []
def idsL (ps : List (List UInt8)) : List (List UInt8) := (ps.map (lastN objD)).filter validB
def slsV (c : CSt) : List (List UInt8) := if lisE c objD = 0 then idsL (lisO c objD) else []
def SRow (r : RowM) : Prop := r.path = tmpP ∨ r.path = stP r.f.data
def SCh (q : ChM) : Prop := (q.gone = [] ∧ q.path = tmpP) ∨ (q.gone = tmpP ∧ q.path = stP q.f.data)
def SRs (R : List RowM) : Prop := Ord R ∧ ∀ r ∈ R, SRow r
structure SInv (c : CSt) : Prop where
 rows : SRs c.durable
 pend : ∀ q ∈ c.pending, SCh q
 here : c.here = c.pending.foldl applyC c.durable
 plan : ∀ e ∈ c.plan, e.kind ≠ 4 ∧ e.kind ≠ 5
section
variable {c : CSt}
def HasT (c : CSt) (t : List UInt8) : Prop := c.down = false → peekB c.here (objP t) = true
end
end Go.Proofs.YtbenkmihkbjgeaaGreat.Tx
/- Package scan, as plain data; how great a file system may be behind many calls. (No Go in it.) -/
set_option linter.unusedVariables false
set_option linter.unusedSimpArgs false
namespace Go.Proofs.YtbenkmihkbjgeaaGreat.Tx
open Go.RowKit Go.Proofs.YtbenkmihkbjgeaaGreat.Sh
structure GoS (c : CSt) (i : Nat) : Prop where
 fits : ∃ N, CFits c N ∧ N + 2 * c.plan.length ≤ i
 calls : 0 ≤ c.calls ∧ c.calls ≤ (i : Int)
 plan : c.plan.length ≤ 60
 paths : ∀ e ∈ c.plan, e.path.length ≤ 400
section
variable {c : CSt} {i j : Nat}
theorem GoS.ready (h : GoS c i) (hi : i ≤ 500000) : CReady c i := by
 obtain ⟨N, h1, h2⟩ := h.fits
 exact ⟨h1.more (by omega), by have := h.plan; omega, ⟨h.calls.1, by have := h.calls.2; omega⟩, fun e he => Nat.le_trans (h.paths e he) (by decide)⟩
theorem GoS.upto (h : GoS c i) (hij : i ≤ j) : GoS c j := by
 obtain ⟨N, h1, h2⟩ := h.fits
 exact ⟨⟨N, h1, by omega⟩, ⟨h.calls.1, by have := h.calls.2; omega⟩, h.plan, h.paths⟩
theorem GoS.begun (h : GoS c i) : (∃ N, CFits (bgC c).c N ∧ N + 2 * (bgC c).c.plan.length ≤ i) ∧ (0 ≤ (bgC c).c.calls ∧ (bgC c).c.calls ≤ ((i + 1 : Nat) : Int)) ∧ (bgC c).c.plan.length ≤ 60 ∧ ∀ e ∈ (bgC c).c.plan, e.path.length ≤ 400 := by
 obtain ⟨N, h1, h2⟩ := h.fits
 obtain ⟨e1, e2⟩ := bg_plan c
 have h3 := bgN_le c
 refine ⟨⟨N + 2 * bgN c, h1.bg (bgN c) h3, ?_⟩, ?_, ?_, fun e he => h.paths e (List.mem_of_mem_drop (e1 ▸ he))⟩
 ·rw [e1, List.length_drop]; omega
 ·rw [e2]; have := h.calls; constructor <;> omega
 ·rw [e1, List.length_drop]; have := h.plan; omega
theorem GoS.bg (h : GoS c i) : GoS (bgC c).c (i + 1) := by
 obtain ⟨⟨N, h1, h2⟩, h3, h4, h5⟩ := h.begun
 exact ⟨⟨N, h1, by omega⟩, h3, h4, h5⟩
theorem GoS.next {c' : CSt} (h : GoS c i) (hf : ∀ N, CFits (bgC c).c N → CFits c' (N + 1)) (hc : c'.calls = (bgC c).c.calls) (hp : c'.plan = (bgC c).c.plan) : GoS c' (i + 1) := by
 obtain ⟨⟨N, h1, h2⟩, h3, h4, h5⟩ := h.begun
 exact ⟨⟨N + 1, hf N h1, by rw [hp]; omega⟩, by rw [hc]; exact h3, by rw [hp]; exact h4, by rw [hp]; exact h5⟩
theorem GoS.crt (h : GoS c i) (p : List UInt8) (mode : Int) (data : List UInt8) (create : Bool) : GoS (crtC c p mode data create) (i + 1) := by
 unfold crtC
 split
 ·obtain ⟨e3, e4, _⟩ := wr_plan (bgC c).c p mode data (bgC c).room create
  exact h.next (fun N hN => hN.wr p mode data _ create) e4 e3
 ·exact h.bg
theorem GoS.mov (h : GoS c i) (fr tt : List UInt8) (create : Bool) : GoS (movC c fr tt create) (i + 1) := by
 unfold movC
 split
 ·obtain ⟨e3, e4⟩ := mv_plan (bgC c).c fr tt create
  exact h.next (fun N hN => hN.mv fr tt create) e4 e3
 ·exact h.bg
theorem GoS.wm (h : GoS c i) (b : List UInt8) : GoS (wmC c b) (i + 2) := by
 unfold wmC
 split
 ·exact (h.crt _ _ _ _).mov _ _ _
 ·exact (h.crt _ _ _ _).upto (by omega)
theorem GoS.put (h : GoS c i) (b : List UInt8) : GoS (sptC c b) (i + 3) := by
 unfold sptC
 split
 ·exact h.upto (by omega)
 ·split
  ·exact h.bg.wm b
  ·exact h.bg.upto (by omega)
theorem GoS.new_ (room : Int) : GoS (newC room) 0 :=
 have h := GoC.new_ room
 ⟨⟨0, by have := h.fits; simpa using this, Nat.le_refl _⟩, by have := h.calls; exact this, h.plan, h.paths⟩
end
def wP (p : List UInt8) : List UInt8 := 119 :: 47 :: p
def wD : List UInt8 := [119]
structure RwM where
 path : List UInt8
 mode : Int
 id : List UInt8
structure KnM where
 path : List UInt8
 time : Int
 id : List UInt8
structure IxM where
 files : List KnM
 at_ : Int
def knF (l : List KnM) (p : List UInt8) : Option KnM := l.find? fun k => k.path == p
def putK (l : List KnM) (k : KnM) : List KnM := (l.filter fun q => !(q.path == k.path)) ++ [k]
theorem knF_put (l : List KnM) (k : KnM) (p : List UInt8) : knF (putK l k) p = if p = k.path then some k else knF l p := by
 unfold knF putK
 rw [List.find?_append]
 by_cases h : p = k.path
 ·subst h
  rw [if_pos rfl]
  have h1 : (l.filter fun q => !(q.path == k.path)).find? (fun q => q.path == k.path) = none := List.find?_eq_none.2 fun q hq => by
   have := (List.mem_filter.1 hq).2
   simpa using this
  rw [h1, List.find?_cons_of_pos (by simp)]
  rfl
 ·rw [if_neg h]
  have h2 : [k].find? (fun q => q.path == p) = none := List.find?_eq_none.2 fun q hq => by
   rw [List.mem_singleton.1 hq]
   simpa using fun e => h e.symm
  rw [h2, Option.or_none, List.find?_filter]
  refine congrArg (fun f => List.find? f l) (funext fun q => ?_)
  by_cases e : q.path = p
  ·rw [e]; simp [h]
  ·simp [e]
def ixL (x : IxM) (p : List UInt8) (t : Int) : Option (List UInt8) := match knF x.files p with
 | some k => if k.time = t ∧ t < x.at_ then some k.id else none
 | none => none
def sgeE (c : CSt) (id : List UInt8) : Int := if validB id = false then 6 else if redE c (objP id) ≠ 0 then redE c (objP id) else if idL (redF c (objP id)).data = id then 0 else 5
def hasC (c : CSt) (id : List UInt8) : CSt := if validB id = false then c else (bgC c).c
def hasE (c : CSt) (id : List UInt8) : Bool := decide (sgeE c id = 0)
def hshQ (x : IxM) (c : CSt) (p : List UInt8) (f : FileM) : Option (List UInt8) := match ixL x p f.time with
 | some id => if hasE c id = true then some id else none
 | none => none
def hshC (x : IxM) (c : CSt) (p : List UInt8) (f : FileM) : CSt := match ixL x p f.time with
 | some id => hasC c id
 | none => c
def blobL (d : List UInt8) : List UInt8 := 1 :: d
def hashE (x : IxM) (c : CSt) (p : List UInt8) (f : FileM) : Int := match hshQ x c p f with
 | some _ => 0
 | none => if 4096 < f.data.length then 3 else sptE (hshC x c p f) (blobL f.data)
def hashV (x : IxM) (c : CSt) (p : List UInt8) (f : FileM) : List UInt8 := match hshQ x c p f with
 | some id => id
 | none => if 4096 < f.data.length then [] else sptV (hshC x c p f) (blobL f.data)
def hashC (x : IxM) (c : CSt) (p : List UInt8) (f : FileM) : CSt := match hshQ x c p f with
 | some _ => hshC x c p f
 | none => if 4096 < f.data.length then hshC x c p f else sptC (hshC x c p f) (blobL f.data)
def hashN (x : IxM) (c : CSt) (p : List UInt8) (f : FileM) : Nat := match hshQ x c p f with
 | some _ => 0
 | none => if 4096 < f.data.length then 0 else 1
structure ScM where
 c : CSt
 rows : List RwM
 files : List KnM
 n : Nat
def takE (x : IxM) (s : ScM) (p : List UInt8) : Int :=
 if 256 ≤ s.rows.length then 14 else if redE s.c (wP p) = 7 then 0 else if redE s.c (wP p) ≠ 0 then redE s.c (wP p) else hashE x (bgC s.c).c p (redF s.c (wP p))
def takS (x : IxM) (s : ScM) (p : List UInt8) : ScM :=
 if 256 ≤ s.rows.length then s else if redE s.c (wP p) ≠ 0 then { s with c := (bgC s.c).c }
 else if hashE x (bgC s.c).c p (redF s.c (wP p)) ≠ 0 then { s with c := hashC x (bgC s.c).c p (redF s.c (wP p)), n := s.n + hashN x (bgC s.c).c p (redF s.c (wP p)) }
 else ⟨hashC x (bgC s.c).c p (redF s.c (wP p)), s.rows ++ [⟨p, (redF s.c (wP p)).mode, hashV x (bgC s.c).c p (redF s.c (wP p))⟩], putK s.files ⟨p, (redF s.c (wP p)).time, hashV x (bgC s.c).c p (redF s.c (wP p))⟩, s.n + hashN x (bgC s.c).c p (redF s.c (wP p))⟩
def allE (x : IxM) : ScM → List (List UInt8) → Int
 | _, [] => 0
 | s, p :: l => if takE x s p = 0 then allE x (takS x s p) l else takE x s p
def allS (x : IxM) : ScM → List (List UInt8) → ScM
 | s, [] => s
 | s, p :: l => if takE x s p = 0 then allS x (takS x s p) l else takS x s p
def scn0 (c : CSt) : ScM := ⟨(bgC c).c, [], [], 0⟩
def scn1 (x : IxM) (c : CSt) (l : List (List UInt8)) : ScM := allS x (scn0 c) l
section
variable {c : CSt} {i : Nat} {x : IxM} {s : ScM}
theorem GoS.has (h : GoS c i) (id : List UInt8) : GoS (hasC c id) (i + 1) := by
 unfold hasC
 split
 ·exact h.upto (by omega)
 ·exact h.bg
theorem GoS.hsh (h : GoS c i) (x : IxM) (p : List UInt8) (f : FileM) : GoS (hshC x c p f) (i + 1) := by
 unfold hshC
 split
 ·exact h.has _
 ·exact h.upto (by omega)
theorem GoS.hash (h : GoS c i) (x : IxM) (p : List UInt8) (f : FileM) : GoS (hashC x c p f) (i + 4) := by
 unfold hashC
 split
 ·exact (h.hsh x p f).upto (by omega)
 ·split
  ·exact (h.hsh x p f).upto (by omega)
  ·exact (h.hsh x p f).put _
theorem GoS.tak (h : GoS s.c i) (x : IxM) (p : List UInt8) : GoS (takS x s p).c (i + 5) := by
 unfold takS
 split
 ·exact h.upto (by omega)
 ·split
  ·exact h.bg.upto (by omega)
  ·split
   ·exact h.bg.hash x p _
   ·exact h.bg.hash x p _
theorem tak_rows (x : IxM) (s : ScM) (p : List UInt8) : (takS x s p).rows.length ≤ max 256 s.rows.length ∧ (takS x s p).n ≤ s.n + 1 := by
 have hn : hashN x (bgC s.c).c p (redF s.c (wP p)) ≤ 1 := by
  unfold hashN
  split
  ·omega
  ·split <;> omega
 unfold takS
 split
 ·exact ⟨by omega, by omega⟩
 ·split
  ·exact ⟨by dsimp only; omega, by dsimp only; omega⟩
  ·split
   ·exact ⟨by dsimp only; omega, by dsimp only; omega⟩
   ·refine ⟨?_, by dsimp only; omega⟩
    dsimp only
    rw [List.length_append]
    simp only [List.length_singleton]
    omega
end
end Go.Proofs.YtbenkmihkbjgeaaGreat.Tx
/- Package fsim: Read once more: what it hands back belongs to nobody. (mk_rd2.py wrote it out of Gs18.) -/
set_option linter.unusedVariables false
set_option linter.unusedSimpArgs false
namespace Go.Proofs.YtbenkmihkbjgeaaGreat.Tx
open Go.RowKit Go.Maps Go.Proofs.YtbenkmihkbjgeaaGreat.Sh
def RedPost2 (F M : Nat → Prop) (w : World) (b : Nat) (s : CSt) (n : Int) (f : FileM) (e : Ending) (w' : World) : Prop :=
 ∃ u v M' F2, e = .returned (.tuple #[u, .int .i64 n]) ∧ u = .agg #[.int .i64 f.mode, v, .int .i64 f.time] ∧ FcAt F2 w' b s M' ∧ Only M w w' ∧ (∀ k, M' k → M k ∨ w.heap.size ≤ k) ∧ (∀ k, F2 k → F k ∨ w.heap.size ≤ k) ∧ By (fun k => ¬ F2 k ∧ ¬ M' k ∧ w.heap.size ≤ k ∧ k < w'.heap.size) w' v f.data
theorem red_fin2 {F M M1 : Nat → Prop} {w wa w1 w' : World} {b : Nat} {s : CSt} (hwa : Below w.heap.size w wa) (hz : w.heap.size < wa.heap.size) (hat : FcAt (grow F wa w1 M1) w1 b s M1) (hon : Only M wa w1) (hsub : ∀ k, M1 k → M k ∨ wa.heap.size ≤ k)
  (hr : Only (fun k => k = w.heap.size) w1 w') (hF : ∀ k, F k → k < w.heap.size) (hM : ∀ k, M k → k < w.heap.size) :
  FcAt (grow F wa w1 M1) w' b s M1 ∧ Only M w w' ∧ (∀ k, M1 k → M k ∨ w.heap.size ≤ k) ∧ ∀ k, grow F wa w1 M1 k → F k ∨ w.heap.size ≤ k := by
 obtain ⟨x, hX, hX2⟩ := hat
 have hz1 := hon.size
 have hz2 := hr.size
 have hne : ∀ k, M1 k → ¬ (k = w.heap.size) := fun k hk e => by
  rcases hsub k hk with h | h
  ·have := hM k h; omega
  ·omega
 have h1 : FcX (grow F wa w1 M1) w' b s x := hX.only hr (fun k hk e => by
  rcases hk with hk | ⟨g1, _, _⟩
  ·have := hF k hk; omega
  ·omega) (fun k hk => hne k ((hX2 k).2 hk))
 exact ⟨⟨x, h1, hX2⟩, ((Only.of_below hwa).trans hon (fun k hk => .inl hk)).trans hr (fun k hk => .inr (by rw [hk]; exact Nat.le_refl _)), fun k hk => (hsub k hk).imp id (fun h => by omega), fun k hk => hk.imp id (fun h => by have := h.1; omega)⟩
set_option maxRecDepth 100000 in
set_option maxHeartbeats 3200000 in
theorem read2_any (F M : Nat → Prop) (b : Nat) (st : CSt) (N : Nat) (p : List UInt8) (w : World) (h : FcAt F w b st M) (hr : CReady st N) (hp : p.length ≤ 1000000) :
  Calls Tryz.prog 59 #[.pointer (some ⟨b, 0, none⟩), .string (str p)] w (RedPost2 F M w b (bgC st).c (redE st p) (redF st p)) := by
 have HR := Lib.hid hr
 have HS := Lib.hid hr.small
 have HLF := Lib.hid h.low
 have HLM := Lib.hid h.lt
 obtain ⟨wa, hwa⟩ : ∃ wa, wa = w.alloc (.cells #[.int .i64 0, .slice none 0 0, .int .i64 0] 129) := ⟨_, rfl⟩
 have hBa : Below w.heap.size w wa := by rw [hwa]; exact (Below.refl _ _).alloc (Nat.le_refl _) _
 have hba : Blk wa w.heap.size 129 #[.int .i64 0, .slice none 0 0, .int .i64 0] := by rw [hwa]; exact Blk.new _ _ _
 have HZA : Hid (w.heap.size < wa.heap.size) := hba.lt
 have HBA := Lib.hid hBa
 have HBLK := Lib.hid hba
 have H := Lib.hid (h.below hBa)
 clear h hr hBa hba
 obtain ⟨be, hbe⟩ : ∃ be, bgE st = be := ⟨_, rfl⟩
 have HBE := Lib.hid hbe
 obtain ⟨tp, htp⟩ : ∃ t, pathB p = t := ⟨_, rfl⟩
 have HTP := Lib.hid htp
 clear hbe htp
 go_enter Tryz.func59, Tryz.ntmps59
 go_upto_region 1 with (fail)
 rw [← hwa]
 clear hwa
 go_wp2_with fail
 refine (begin_any F M b st N _ H.out HR.out.fits HR.out.big HR.out.calls HR.out.paths).mono ?_
 rintro e w1 ⟨rfl, hpost⟩
 rw [HBE.out]
 obtain ⟨s, hs⟩ : ∃ s, (bgC st).c = s := ⟨_, rfl⟩
 have HSS := Lib.hid hs
 rw [hs] at hpost
 obtain ⟨M1, hat, hon, hsub⟩ := hpost
 have HSM : Hid (CSmall s) := by rw [← hs]; exact HS.out
 have HAT := Lib.hid hat
 have HON := Lib.hid hon
 have HSUB := Lib.hid hsub
 have hb1 : Blk w1 w.heap.size 129 #[.int .i64 0, .slice none 0 0, .int .i64 0] := hon.blk HBLK.out (fun hm => by have := HLM.out _ hm; omega)
 have HB1 := Lib.hid hb1
 have hwl : w.heap.size < w1.heap.size := hb1.lt
 clear hat hon hsub hs hb1
 obtain ⟨fu, hfu⟩ : ∃ fu, (bgC st).room = fu := ⟨_, rfl⟩
 rw [hfu]
 clear hfu
 by_cases hb0 : be = 0
 ·subst hb0
  go_wp2_with fail
  refine (npath_any p _ hp).mono ?_
  rintro e w2 ⟨rfl, hb2⟩
  rw [HTP.out]
  have HB2 := Lib.hid hb2
  have HK2 := Lib.hid (HB1.out.below hb2 hwl)
  have hz2 := hb2.size
  clear hb2
  cases tp with
  | false =>
   have HE : Hid (redE st p = 6 ∧ redF st p = ⟨0, [], 0⟩) := by
    have h1 : redE st p = 6 := by unfold redE; rw [if_pos HBE.out, if_pos HTP.out]
    exact ⟨h1, by unfold redF; rw [h1, if_neg (by decide)]⟩
   have a0 : w2.cell? ⟨w.heap.size, 0, none⟩ = some (.int .i64 0) := HK2.out.cell 0
   have a1 : w2.cell? ⟨w.heap.size, 1, none⟩ = some (.slice none 0 0) := HK2.out.cell 1
   have a2 : w2.cell? ⟨w.heap.size, 2, none⟩ = some (.int .i64 0) := HK2.out.cell 2
   have f0 : w2.frozen? ⟨w.heap.size, 0, none⟩ = false := HK2.out.frozen 0
   have f1 : w2.frozen? ⟨w.heap.size, 1, none⟩ = false := HK2.out.frozen 1
   have f2 : w2.frozen? ⟨w.heap.size, 2, none⟩ = false := HK2.out.frozen 2
   have hs3 := set3 HK2.out (.int .i64 0) (.slice none 0 0) (.int .i64 0)
   have HBC := Lib.hid hs3.1
   have HON3 := Lib.hid ((Only.of_below HB2.out).trans hs3.2 (fun _ h => .inl h))
   clear hs3
   go_wp2_with fail
   generalize (((w2.setCell ⟨w.heap.size, 0, none⟩ (.int .i64 0)).setCell ⟨w.heap.size, 1, none⟩ (.slice none 0 0)).setCell ⟨w.heap.size, 2, none⟩ (.int .i64 0)) = wc at *
   have q0 : wc.cell? ⟨w.heap.size, 0, none⟩ = some (.int .i64 0) := HBC.out.cell 0
   have q1 : wc.cell? ⟨w.heap.size, 1, none⟩ = some (.slice none 0 0) := HBC.out.cell 1
   have q2 : wc.cell? ⟨w.heap.size, 2, none⟩ = some (.int .i64 0) := HBC.out.cell 2
   refine bodyPost_ret (v := .tuple #[.agg #[(.int .i64 0), (.slice none 0 0), (.int .i64 0)], .int .i64 6]) (by simp [results, Tryz.results59, go_sem, q0, q1, q2]) rfl ?_
   have hfin := red_fin2 HBA.out HZA.out HAT.out HON.out HSUB.out HON3.out HLF.out HLM.out
   refine ⟨_, _, M1, _, by rw [HE.out.1], by rw [HE.out.2], by rw [HSS.out]; exact hfin.1, hfin.2.1, hfin.2.2.1, hfin.2.2.2, ?_⟩
   rw [HE.out.2]
   exact By.nil_ _ _
  | true =>
   go_wp2_with fail
   refine (peek_any p (HAT.out.below HB2.out) HSM.out hp).mono ?_
   rintro e w3 ⟨u3, rfl, hfv, hb3⟩
   obtain ⟨v3, rfl, ho3⟩ := hfv
   have hb13 : Below w1.heap.size w1 w3 := HB2.out.trans (hb3.mono hz2)
   have HO3 := Lib.hid ho3
   obtain ⟨A3, c3, rfl, _, _⟩ := ho3.length
   rw [List.length_map] at HO3 ⊢
   obtain ⟨pf, hpf⟩ : ∃ pf, peekF s.here p = pf := ⟨_, rfl⟩
   obtain ⟨pb, hpb⟩ : ∃ pb, peekB s.here p = pb := ⟨_, rfl⟩
   have HPF := Lib.hid hpf
   have HPB := Lib.hid hpb
   rw [hpf] at HO3 ⊢
   rw [hpb]
   clear hpf hpb ho3
   obtain ⟨w4, hw4⟩ : ∃ w4, w4 = w3.alloc (.cells #[.int .i64 pf.mode, .slice A3 pf.data.length c3, .int .i64 pf.time] 129) := ⟨_, rfl⟩
   have hb34 : Below w3.heap.size w3 w4 := by rw [hw4]; exact (Below.refl _ _).alloc (Nat.le_refl _) _
   have hbx : Blk w4 w3.heap.size 129 #[.int .i64 pf.mode, .slice A3 pf.data.length c3, .int .i64 pf.time] := by rw [hw4]; exact Blk.new _ _ _
   have hz3 := hb13.size
   have HO4 := Lib.hid (HO3.out.below hb34)
   have HB14 := Lib.hid (hb13.trans (hb34.mono hz3))
   have HK4 := Lib.hid (HB1.out.below HB14.out hwl)
   have HX4 := Lib.hid hbx
   clear hb13 hb34 hbx hb3
   go_upto_region 7 with (fail)
   rw [← hw4]
   clear hw4
   have x0 : w4.cell? ⟨w3.heap.size, 0, none⟩ = some (.int .i64 pf.mode) := HX4.out.cell 0
   have x1 : w4.cell? ⟨w3.heap.size, 1, none⟩ = some (.slice A3 pf.data.length c3) := HX4.out.cell 1
   have x2 : w4.cell? ⟨w3.heap.size, 2, none⟩ = some (.int .i64 pf.time) := HX4.out.cell 2
   have a0 : w4.cell? ⟨w.heap.size, 0, none⟩ = some (.int .i64 0) := HK4.out.cell 0
   have a1 : w4.cell? ⟨w.heap.size, 1, none⟩ = some (.slice none 0 0) := HK4.out.cell 1
   have a2 : w4.cell? ⟨w.heap.size, 2, none⟩ = some (.int .i64 0) := HK4.out.cell 2
   have f0 : w4.frozen? ⟨w.heap.size, 0, none⟩ = false := HK4.out.frozen 0
   have f1 : w4.frozen? ⟨w.heap.size, 1, none⟩ = false := HK4.out.frozen 1
   have f2 : w4.frozen? ⟨w.heap.size, 2, none⟩ = false := HK4.out.frozen 2
   cases pb with
   | false =>
    have HE : Hid (redE st p = 7 ∧ redF st p = ⟨0, [], 0⟩) := by
     have h1 : redE st p = 7 := by unfold redE; rw [if_pos HBE.out, if_neg (by rw [HTP.out]; decide), HSS.out, if_neg (by rw [HPB.out]; decide)]
     exact ⟨h1, by unfold redF; rw [h1, if_neg (by decide)]⟩
    have hs3 := set3 HK4.out (.int .i64 0) (.slice none 0 0) (.int .i64 0)
    have HBC := Lib.hid hs3.1
    have HON3 := Lib.hid ((Only.of_below HB14.out).trans hs3.2 (fun _ h => .inl h))
    clear hs3
    go_wp2_with fail
    generalize (((w4.setCell ⟨w.heap.size, 0, none⟩ (.int .i64 0)).setCell ⟨w.heap.size, 1, none⟩ (.slice none 0 0)).setCell ⟨w.heap.size, 2, none⟩ (.int .i64 0)) = wc at *
    have q0 : wc.cell? ⟨w.heap.size, 0, none⟩ = some (.int .i64 0) := HBC.out.cell 0
    have q1 : wc.cell? ⟨w.heap.size, 1, none⟩ = some (.slice none 0 0) := HBC.out.cell 1
    have q2 : wc.cell? ⟨w.heap.size, 2, none⟩ = some (.int .i64 0) := HBC.out.cell 2
    refine bodyPost_ret (v := .tuple #[.agg #[(.int .i64 0), (.slice none 0 0), (.int .i64 0)], .int .i64 7]) (by simp [results, Tryz.results59, go_sem, q0, q1, q2]) rfl ?_
    have hfin := red_fin2 HBA.out HZA.out HAT.out HON.out HSUB.out HON3.out HLF.out HLM.out
    refine ⟨_, _, M1, _, by rw [HE.out.1], by rw [HE.out.2], by rw [HSS.out]; exact hfin.1, hfin.2.1, hfin.2.2.1, hfin.2.2.2, ?_⟩
    rw [HE.out.2]
    exact By.nil_ _ _
   | true =>
    have HE : Hid (redE st p = 0 ∧ redF st p = pf) := by
     have h1 : redE st p = 0 := by unfold redE; rw [if_pos HBE.out, if_neg (by rw [HTP.out]; decide), HSS.out, if_pos HPB.out]
     exact ⟨h1, by unfold redF; rw [h1, if_pos rfl, HSS.out, HPF.out]⟩
    have HBY := Lib.hid (OwnV.by_ (F := fun _ => False) HO4.out)
    have hs3 := set3 HK4.out (.int .i64 pf.mode) (.slice A3 pf.data.length c3) (.int .i64 pf.time)
    have HBC := Lib.hid hs3.1
    have HON3 := Lib.hid ((Only.of_below HB14.out).trans hs3.2 (fun _ h => .inl h))
    have HBYC := Lib.hid (HBY.out.only hs3.2 (fun k hk e => by
     rcases hk with hk | hk
     ·exact hk
     ·have := hk.1; omega))
    clear hs3
    go_wp2_with fail
    generalize (((w4.setCell ⟨w.heap.size, 0, none⟩ (.int .i64 pf.mode)).setCell ⟨w.heap.size, 1, none⟩ (.slice A3 pf.data.length c3)).setCell ⟨w.heap.size, 2, none⟩ (.int .i64 pf.time)) = wc at *
    have q0 : wc.cell? ⟨w.heap.size, 0, none⟩ = some (.int .i64 pf.mode) := HBC.out.cell 0
    have q1 : wc.cell? ⟨w.heap.size, 1, none⟩ = some (.slice A3 pf.data.length c3) := HBC.out.cell 1
    have q2 : wc.cell? ⟨w.heap.size, 2, none⟩ = some (.int .i64 pf.time) := HBC.out.cell 2
    refine bodyPost_ret (v := .tuple #[.agg #[(.int .i64 pf.mode), (.slice A3 pf.data.length c3), (.int .i64 pf.time)], .int .i64 0]) (by simp [results, Tryz.results59, go_sem, q0, q1, q2]) rfl ?_
    have hfin := red_fin2 HBA.out HZA.out HAT.out HON.out HSUB.out HON3.out HLF.out HLM.out
    refine ⟨_, _, M1, _, by rw [HE.out.1], by rw [HE.out.2], by rw [HSS.out]; exact hfin.1, hfin.2.1, hfin.2.2.1, hfin.2.2.2, ?_⟩
    rw [HE.out.2]
    refine HBYC.out.mono (fun k hk hf => ?_)
    rcases hf with hf | hf
    ·exact hf.elim
    ·have hf1 := hf.1
     refine ⟨fun h => ?_, fun hm => by have := HAT.out.lt k hm; omega, by omega, hk⟩
     rcases h with h | ⟨_, h, _⟩
     ·have := HLF.out k h; omega
     ·omega
 ·have e1 : (be == 0) = false := by rw [beq_eq_false_iff_ne]; exact hb0
  have HE : Hid (redE st p = be ∧ redF st p = ⟨0, [], 0⟩) := by
   have h1 : redE st p = be := by unfold redE; rw [HBE.out, if_neg hb0]
   exact ⟨h1, by unfold redF; rw [h1, if_neg hb0]⟩
  clear hb0
  have a0 : w1.cell? ⟨w.heap.size, 0, none⟩ = some (.int .i64 0) := HB1.out.cell 0
  have a1 : w1.cell? ⟨w.heap.size, 1, none⟩ = some (.slice none 0 0) := HB1.out.cell 1
  have a2 : w1.cell? ⟨w.heap.size, 2, none⟩ = some (.int .i64 0) := HB1.out.cell 2
  have f0 : w1.frozen? ⟨w.heap.size, 0, none⟩ = false := HB1.out.frozen 0
  have f1 : w1.frozen? ⟨w.heap.size, 1, none⟩ = false := HB1.out.frozen 1
  have f2 : w1.frozen? ⟨w.heap.size, 2, none⟩ = false := HB1.out.frozen 2
  have hs3 := set3 HB1.out (.int .i64 0) (.slice none 0 0) (.int .i64 0)
  have HBC := Lib.hid hs3.1
  have HON3 := Lib.hid ((Only.refl _ w1).trans hs3.2 (fun _ h => .inl h))
  clear hs3
  go_wp2_with fail
  generalize (((w1.setCell ⟨w.heap.size, 0, none⟩ (.int .i64 0)).setCell ⟨w.heap.size, 1, none⟩ (.slice none 0 0)).setCell ⟨w.heap.size, 2, none⟩ (.int .i64 0)) = wc at *
  have q0 : wc.cell? ⟨w.heap.size, 0, none⟩ = some (.int .i64 0) := HBC.out.cell 0
  have q1 : wc.cell? ⟨w.heap.size, 1, none⟩ = some (.slice none 0 0) := HBC.out.cell 1
  have q2 : wc.cell? ⟨w.heap.size, 2, none⟩ = some (.int .i64 0) := HBC.out.cell 2
  refine bodyPost_ret (v := .tuple #[.agg #[(.int .i64 0), (.slice none 0 0), (.int .i64 0)], .int .i64 be]) (by simp [results, Tryz.results59, go_sem, q0, q1, q2]) rfl ?_
  have hfin := red_fin2 HBA.out HZA.out HAT.out HON.out HSUB.out HON3.out HLF.out HLM.out
  refine ⟨_, _, M1, _, by rw [HE.out.1], by rw [HE.out.2], by rw [HSS.out]; exact hfin.1, hfin.2.1, hfin.2.2.1, hfin.2.2.2, ?_⟩
  rw [HE.out.2]
  exact By.nil_ _ _
end Go.Proofs.YtbenkmihkbjgeaaGreat.Tx
