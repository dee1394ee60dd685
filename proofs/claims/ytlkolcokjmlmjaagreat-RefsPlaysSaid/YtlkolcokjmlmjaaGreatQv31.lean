/- Texts put together: VRf3, VSr1, VSc0, VHb0, VRg0. -/
import Derived.Test.YtlkolcokjmlmjaaGreatQv30
import Derived.Test.YtlkolcokjmlmjaaGreatQv28
set_option linter.unusedVariables false
set_option linter.unusedSimpArgs false
namespace Go.Proofs.YtlkolcokjmlmjaaGreat.Tx
open Go.RowKit Go.Proofs.YtlkolcokjmlmjaaGreat.Sh
def hdN:List UInt8:=[104,101,97,100]
def otN:List UInt8:=[111,116,104,101,114]
structure Good (a b o:List UInt8) (R:List RowM):Prop where
 ord:Ord R
 rows:∀ r∈R,(r.path=refP otN∧r.f.data=o++[10])∨(r.path=refP hdN∧((a≠[]∧r.f.data=a++[10])∨r.f.data=b++[10]))∨(r.path=lockP hdN∧r.f.data.length≤65)
 other:peekB R (refP otN)=true
 head:a≠[]→peekB R (refP hdN)=true
def ChG (b:List UInt8) (q:ChM):Prop:=(q.gone=[]∧q.path=lockP hdN∧q.f.data.length≤65)∨(q.gone=lockP hdN∧q.path=[])∨(q.gone=lockP hdN∧q.path=refP hdN∧q.f.data=b++[10])
section
variable {a b o:List UInt8} {R:List RowM}
end
structure JInv (a b o:List UInt8) (c:CSt):Prop where
 good:Good a b o c.durable
 pend:∀ q∈c.pending,ChG b q
 here:c.here=c.pending.foldl applyC c.durable
 lock:c.down=false→peekB c.here (lockP hdN)=true→(peekF c.here (lockP hdN)).data=b++[10]
 plan:∀ e∈c.plan,e.kind≠4∧e.kind≠5
section
variable {a b o:List UInt8} {c:CSt}
end
def isB (R:List RowM) (n id:List UInt8):Bool:=if id=[] then !peekB R (refP n) else peekB R (refP n)&&decide ((peekF R (refP n)).data=id++[10])
end Go.Proofs.YtlkolcokjmlmjaaGreat.Tx
set_option linter.unusedVariables false
set_option linter.unusedSimpArgs false
namespace Go.Proofs.YtlkolcokjmlmjaaGreat.Tx
open Go.RowKit Go.Proofs.YtlkolcokjmlmjaaGreat.Sh
def objP (n:List UInt8):List UInt8:=115::47::111::47::n
def tmpP:List UInt8:=[115,47,116]
def objD:List UInt8:=[115,47,111]
def idL (bs:List UInt8):List UInt8:=hexL (sumOf bs)
def stP (bs:List UInt8):List UInt8:=objP (idL bs)
def preE (c:CSt) (b:List UInt8):Int :=
 if redE c (stP b)=0 then (if (redF c (stP b)).data=b then 0 else if idL (redF c (stP b)).data=idL b then 5 else 7) else redE c (stP b)
def wmE (c:CSt) (b:List UInt8):Int:=if crtE c tmpP 1 b false=0 then movE (crtC c tmpP 1 b false) tmpP (stP b) false else crtE c tmpP 1 b false
def wmC (c:CSt) (b:List UInt8):CSt:=if crtE c tmpP 1 b false=0 then movC (crtC c tmpP 1 b false) tmpP (stP b) false else crtC c tmpP 1 b false
def sptE (c:CSt) (b:List UInt8):Int:=if 20000<b.length then 3 else if preE c b=7 then wmE (bgC c).c b else preE c b
def sptC (c:CSt) (b:List UInt8):CSt:=if 20000<b.length then c else if preE c b=7 then wmC (bgC c).c b else (bgC c).c
def sptV (c:CSt) (b:List UInt8):List UInt8:=if sptE c b=0 then idL b else []
def idsL (ps:List (List UInt8)):List (List UInt8):=(ps.map (lastN objD)).filter validB
def slsV (c:CSt):List (List UInt8):=if lisE c objD=0 then idsL (lisO c objD) else []
def SRow (r:RowM):Prop:=r.path=tmpP∨r.path=stP r.f.data
def SCh (q:ChM):Prop:=(q.gone=[]∧q.path=tmpP)∨(q.gone=tmpP∧q.path=stP q.f.data)
def SRs (R:List RowM):Prop:=Ord R∧∀ r∈R,SRow r
structure SInv (c:CSt):Prop where
 rows:SRs c.durable
 pend:∀ q∈c.pending,SCh q
 here:c.here=c.pending.foldl applyC c.durable
 plan:∀ e∈c.plan,e.kind≠4∧e.kind≠5
section
variable {c:CSt}
def HasT (c:CSt) (t:List UInt8):Prop:=c.down=false→peekB c.here (objP t)=true
end
end Go.Proofs.YtlkolcokjmlmjaaGreat.Tx
set_option linter.unusedVariables false
set_option linter.unusedSimpArgs false
namespace Go.Proofs.YtlkolcokjmlmjaaGreat.Tx
open Go.RowKit Go.Proofs.YtlkolcokjmlmjaaGreat.Sh
structure GoS (c:CSt) (i:Nat):Prop where
 fits:∃ N,CFits c N∧N+2*c.plan.length≤i
 calls:0≤c.calls∧c.calls≤(i:Int)
 plan:c.plan.length≤60
 paths:∀ e∈c.plan,e.path.length≤400
section
variable {c:CSt} {i j:Nat}
theorem GoS.ready (h:GoS c i) (hi:i≤500000):CReady c i:=by
 obtain ⟨N,h1,h2⟩:=h.fits
 exact ⟨h1.more (by omega),by have:=h.plan;omega,⟨h.calls.1,by have:=h.calls.2;omega⟩,fun e he=>Nat.le_trans (h.paths e he) (by decide)⟩
theorem GoS.small (h:GoS c i) (hi:i≤500000):CSmall c:=by
 obtain ⟨N,h1,h2⟩:=h.fits
 exact h1.small (by omega)
theorem GoS.upto (h:GoS c i) (hij:i≤j):GoS c j:=by
 obtain ⟨N,h1,h2⟩:=h.fits
 exact ⟨⟨N,h1,by omega⟩,⟨h.calls.1,by have:=h.calls.2;omega⟩,h.plan,h.paths⟩
theorem GoS.begun (h:GoS c i):(∃ N,CFits (bgC c).c N∧N+2*(bgC c).c.plan.length≤i)∧(0≤(bgC c).c.calls∧(bgC c).c.calls≤((i+1:Nat):Int))∧(bgC c).c.plan.length≤60∧∀ e∈(bgC c).c.plan,e.path.length≤400:=by
 obtain ⟨N,h1,h2⟩:=h.fits
 obtain ⟨e1,e2⟩:=bg_plan c
 have h3:=bgN_le c
 refine ⟨⟨N+2*bgN c,h1.bg (bgN c) h3,?_⟩,?_,?_,fun e he=>h.paths e (List.mem_of_mem_drop (e1 ▸ he))⟩
 ·rw [e1,List.length_drop];omega
 ·rw [e2];have:=h.calls;constructor <;> omega
 ·rw [e1,List.length_drop];have:=h.plan;omega
theorem GoS.bg (h:GoS c i):GoS (bgC c).c (i+1):=by
 obtain ⟨⟨N,h1,h2⟩,h3,h4,h5⟩:=h.begun
 exact ⟨⟨N,h1,by omega⟩,h3,h4,h5⟩
theorem GoS.next {c':CSt} (h:GoS c i) (hf:∀ N,CFits (bgC c).c N→CFits c' (N+1)) (hc:c'.calls=(bgC c).c.calls) (hp:c'.plan=(bgC c).c.plan):GoS c' (i+1):=by
 obtain ⟨⟨N,h1,h2⟩,h3,h4,h5⟩:=h.begun
 exact ⟨⟨N+1,hf N h1,by rw [hp];omega⟩,by rw [hc];exact h3,by rw [hp];exact h4,by rw [hp];exact h5⟩
theorem GoS.crt (h:GoS c i) (p:List UInt8) (mode:Int) (data:List UInt8) (create:Bool):GoS (crtC c p mode data create) (i+1):=by
 unfold crtC
 split
 ·obtain ⟨e3,e4,_⟩:=wr_plan (bgC c).c p mode data (bgC c).room create
  exact h.next (fun N hN=>hN.wr p mode data _ create) e4 e3
 ·exact h.bg
theorem GoS.mov (h:GoS c i) (fr tt:List UInt8) (create:Bool):GoS (movC c fr tt create) (i+1):=by
 unfold movC
 split
 ·obtain ⟨e3,e4⟩:=mv_plan (bgC c).c fr tt create
  exact h.next (fun N hN=>hN.mv fr tt create) e4 e3
 ·exact h.bg
theorem GoS.new_ (room:Int):GoS (newC room) 0 :=
 have h:=GoC.new_ room
 ⟨⟨0,by have:=h.fits;simpa using this,Nat.le_refl _⟩,by have:=h.calls;exact this,h.plan,h.paths⟩
end
def wP (p:List UInt8):List UInt8:=119::47::p
def wD:List UInt8:=[119]
structure RwM where
 path:List UInt8
 mode:Int
 id:List UInt8
structure KnM where
 path:List UInt8
 time:Int
 id:List UInt8
structure IxM where
 files:List KnM
 at_:Int
def knF (l:List KnM) (p:List UInt8):Option KnM:=l.find? fun k=>k.path==p
def putK (l:List KnM) (k:KnM):List KnM:=(l.filter fun q=>!(q.path==k.path))++[k]
def ixL (x:IxM) (p:List UInt8) (t:Int):Option (List UInt8):=match knF x.files p with
 | some k=>if k.time=t∧t<x.at_ then some k.id else none
 | none=>none
def sgeE (c:CSt) (id:List UInt8):Int:=if validB id=false then 6 else if redE c (objP id)≠0 then redE c (objP id) else if idL (redF c (objP id)).data=id then 0 else 5
def hasC (c:CSt) (id:List UInt8):CSt:=if validB id=false then c else (bgC c).c
def hasE (c:CSt) (id:List UInt8):Bool:=decide (sgeE c id=0)
def hshQ (x:IxM) (c:CSt) (p:List UInt8) (f:FileM):Option (List UInt8):=match ixL x p f.time with
 | some id=>if hasE c id=true then some id else none
 | none=>none
def hshC (x:IxM) (c:CSt) (p:List UInt8) (f:FileM):CSt:=match ixL x p f.time with
 | some id=>hasC c id
 | none=>c
def blobL (d:List UInt8):List UInt8:=1::d
def hashE (x:IxM) (c:CSt) (p:List UInt8) (f:FileM):Int:=match hshQ x c p f with
 | some _=>0
 | none=>if 4096<f.data.length then 3 else sptE (hshC x c p f) (blobL f.data)
def hashV (x:IxM) (c:CSt) (p:List UInt8) (f:FileM):List UInt8:=match hshQ x c p f with
 | some id=>id
 | none=>if 4096<f.data.length then [] else sptV (hshC x c p f) (blobL f.data)
def hashC (x:IxM) (c:CSt) (p:List UInt8) (f:FileM):CSt:=match hshQ x c p f with
 | some _=>hshC x c p f
 | none=>if 4096<f.data.length then hshC x c p f else sptC (hshC x c p f) (blobL f.data)
def hashN (x:IxM) (c:CSt) (p:List UInt8) (f:FileM):Nat:=match hshQ x c p f with
 | some _=>0
 | none=>if 4096<f.data.length then 0 else 1
structure ScM where
 c:CSt
 rows:List RwM
 files:List KnM
 n:Nat
def takE (x:IxM) (s:ScM) (p:List UInt8):Int :=
 if 256≤s.rows.length then 14 else if redE s.c (wP p)=7 then 0 else if redE s.c (wP p)≠0 then redE s.c (wP p) else hashE x (bgC s.c).c p (redF s.c (wP p))
def takS (x:IxM) (s:ScM) (p:List UInt8):ScM :=
 if 256≤s.rows.length then s else if redE s.c (wP p)≠0 then { s with c:=(bgC s.c).c }
 else if hashE x (bgC s.c).c p (redF s.c (wP p))≠0 then { s with c:=hashC x (bgC s.c).c p (redF s.c (wP p)),n:=s.n+hashN x (bgC s.c).c p (redF s.c (wP p)) }
 else ⟨hashC x (bgC s.c).c p (redF s.c (wP p)),s.rows++[⟨p,(redF s.c (wP p)).mode,hashV x (bgC s.c).c p (redF s.c (wP p))⟩],putK s.files ⟨p,(redF s.c (wP p)).time,hashV x (bgC s.c).c p (redF s.c (wP p))⟩,s.n+hashN x (bgC s.c).c p (redF s.c (wP p))⟩
def allE (x:IxM):ScM→List (List UInt8)→Int
 | _,[]=>0
 | s,p::l=>if takE x s p=0 then allE x (takS x s p) l else takE x s p
def allS (x:IxM):ScM→List (List UInt8)→ScM
 | s,[]=>s
 | s,p::l=>if takE x s p=0 then allS x (takS x s p) l else takS x s p
def scn0 (c:CSt):ScM:=⟨(bgC c).c,[],[],0⟩
def scn1 (x:IxM) (c:CSt) (l:List (List UInt8)):ScM:=allS x (scn0 c) l
section
variable {c:CSt} {i:Nat} {x:IxM} {s:ScM}
end
end Go.Proofs.YtlkolcokjmlmjaaGreat.Tx
set_option linter.unusedVariables false
set_option linter.unusedSimpArgs false
namespace Go.Proofs.YtlkolcokjmlmjaaGreat.Tx
open Go.RowKit Go.Maps Go.Proofs.YtlkolcokjmlmjaaGreat.Sh
structure TieG (c:CSt) (s:FSM) (i:Nat):Prop where
 tied:Tied c s
 go:GoS c i
 goM:∃ j,GoM s j
section
variable {c c':CSt} {s s':FSM} {i j N:Nat}
theorem GoS.tfits (h:GoS c i) (hi:i≤900000):∃ N,CFits c N∧N+2*c.plan.length≤900000:=by
 obtain ⟨N,h1,h2⟩:=h.fits
 exact ⟨N,h1,by omega⟩
theorem PT.prow:∀ {R:List RowM} {l:List ChM} {m:List OpM},PT R l m→l.length=m.length
 | _,[],[],_=>rfl
 | R,q::l,o::m,h=>congrArg (·+1) (PT.prow h.2)
 | _,[],_::_,h=>h.elim
 | _,_::_,[],h=>h.elim
theorem Tied.fitsM (h:Tied c s) (hf:CFits c N) (hm:GoM s j):Fits s N:=by
 have t:=h.tie
 refine ⟨by rw [← t.now];exact hf.here,by rw [← t.sure,← PT.prow t.pend];exact hf.both,by rw [← t.users];exact hf.users,by rw [← t.time];exact hf.time0,by rw [← t.time];exact hf.time,fun r hr=>?_,fun r hr=>?_,hm.fits.prow⟩
 ·rw [← t.now] at hr
  exact hf.hrow r hr
 ·rw [← t.sure] at hr
  exact hf.drow r hr
theorem TieG.ready (h:TieG c s i) (hi:i≤390000):∃ N,Ready s N:=by
 obtain ⟨N,h1,h2⟩:=h.go.fits
 obtain ⟨j,hj⟩:=h.goM
 refine ⟨N,h.tied.fitsM h1 hj,by have:=hj.plan;omega,?_,fun e he=>Nat.le_trans (hj.paths e he) (by decide)⟩
 rw [← h.tied.tie.calls]
 have:=h.go.calls
 exact ⟨this.1,by omega⟩
theorem TieG.bg (h:TieG c s i) (hi:i≤390000):TieG (bgC c).c (beginM s).st (i+1):=by
 obtain ⟨N,h1,h2⟩:=h.go.tfits (by omega)
 obtain ⟨j,hj⟩:=h.goM
 exact ⟨h.tied.begun h1 h2,h.go.bg,_,hj.bg⟩
theorem TieG.red (h:TieG c s i) (hi:i≤390000) (p:List UInt8):redE c p=readE s p∧redF c p=readF s p:=by
 obtain ⟨N,h1,h2⟩:=h.go.tfits (by omega)
 exact h.tied.red h1 h2 p
theorem TieG.lis (h:TieG c s i) (hi:i≤390000) (p:List UInt8):lisE c p=listE s p∧lisO c p=listO s p:=by
 obtain ⟨N,h1,h2⟩:=h.go.tfits (by omega)
 exact h.tied.lis h1 h2 p
theorem TieG.crt (h:TieG c s i) (hi:i≤390000) (p:List UInt8) (mode:Int) (data:List UInt8) (create:Bool):crtE c p mode data create=writeE s p mode data create∧TieG (crtC c p mode data create) (writeM s p mode data create) (i+1):=by
 obtain ⟨N,h1,h2⟩:=h.go.tfits (by omega)
 obtain ⟨j,hj⟩:=h.goM
 obtain ⟨g1,g2⟩:=h.tied.crt h1 h2 p mode data create
 exact ⟨g1,g2,h.go.crt _ _ _ _,_,hj.wrt _ _ _ _⟩
theorem TieG.mov (h:TieG c s i) (hi:i≤390000) (fr tt:List UInt8) (create:Bool):movE c fr tt create=moveE s fr tt create∧TieG (movC c fr tt create) (moveM s fr tt create) (i+1):=by
 obtain ⟨N,h1,h2⟩:=h.go.tfits (by omega)
 obtain ⟨j,hj⟩:=h.goM
 obtain ⟨g1,g2⟩:=h.tied.mov h1 h2 fr tt create
 exact ⟨g1,g2,h.go.mov _ _ _,_,hj.mov _ _ _⟩
theorem TieG.upto (h:TieG c s i) (hij:i≤j):TieG c s j:=⟨h.tied,h.go.upto hij,h.goM⟩
end
section
variable {F F' M Mx Z:Nat→Prop} {w w1 w2 w':World} {d y i j:Nat} {c c':CSt} {s s':FSM}
end
end Go.Proofs.YtlkolcokjmlmjaaGreat.Tx
set_option linter.unusedVariables false
set_option linter.unusedSimpArgs false
namespace Go.Proofs.YtlkolcokjmlmjaaGreat.Tx
open Go.RowKit Go.Proofs.YtlkolcokjmlmjaaGreat.Sh
structure PB (c:CSt) (P:List (List UInt8)):Prop where
 here:∀ r∈c.here,r.path∈P
 dur:∀ r∈c.durable,r.path∈P
 pend:∀ q∈c.pending,q.path=[]∨q.path∈P
 plan:∀ e∈c.plan,e.path∈P
section
variable {c c':CSt} {P P':List (List UInt8)} {R:List RowM} {q:ChM} {i j:Nat}
theorem applyC_in (hR:∀ r∈R,r.path∈P) (hq:q.path=[]∨q.path∈P):∀ r∈applyC R q,r.path∈P:=by
 intro r hr
 unfold applyC at hr
 split at hr
 ·exact hR r (gone_mem hr)
 ·rename_i h0
  rcases with_mem hr with h | h
  ·exact hR r (gone_mem h)
  ·rw [h];exact hq.resolve_left h0
theorem foldC_in:∀ {l:List ChM} {R:List RowM},(∀ r∈R,r.path∈P)→(∀ q∈l,q.path=[]∨q.path∈P)→∀ r∈l.foldl applyC R,r.path∈P
 | [],_,h,_=>h
 | q::l,R,h,hl=>foldC_in (l:=l) (applyC_in h (hl q List.mem_cons_self)) (fun x hx=>hl x (List.mem_cons_of_mem _ hx))
theorem PB.mono (h:PB c P) (hP:∀ p∈P,p∈P'):PB c P' :=
 ⟨fun r hr=>hP _ (h.here r hr),fun r hr=>hP _ (h.dur r hr),fun q hq=>(h.pend q hq).imp id (hP _),fun e he=>hP _ (h.plan e he)⟩
theorem PB.do_ (h:PB c P) (hq:q.path=[]∨q.path∈P):PB (doC c q) P:=by
 refine ⟨applyC_in h.here hq,h.dur,fun x hx=>?_,h.plan⟩
 rcases List.mem_append.1 hx with hx | hx
 ·exact h.pend x hx
 ·rw [List.mem_singleton.1 hx];exact hq
theorem PB.settle (h:PB c P):PB (settleC c) P:=⟨h.here,foldC_in h.dur h.pend,fun q hq=>(by cases hq),h.plan⟩
theorem PB.wr (h:PB c P) (p:List UInt8) (mode:Int) (data:List UInt8) (room:Int) (create:Bool) (hp:p∈P):PB (wrC c p mode data room create) P:=by
 unfold wrC
 split
 ·exact h.do_ (.inr hp)
 ·exact h
theorem PB.rm (h:PB c P) (p:List UInt8):PB (rmC c p) P:=by
 unfold rmC
 split
 ·exact h.do_ (.inl rfl)
 ·exact h
theorem PB.mv (h:PB c P) (fr tt:List UInt8) (create:Bool) (hp:tt∈P):PB (mvC c fr tt create) P:=by
 unfold mvC
 split
 ·exact h.do_ (.inr hp)
 ·exact h
theorem PB.note (h:PB c P) (e:EvM):PB (noteC c e) P:=by
 have h1:PB { c with users:=c.users++[{ e with at_:=c.calls }] } P:=⟨h.here,h.dur,h.pend,h.plan⟩
 exact h1.settle
theorem PB.uw (h:PB c P) (p:List UInt8) (mode:Int) (data:List UInt8) (hp:p∈P):PB (uwC c p mode data) P:=by
 unfold uwC
 split
 ·exact (h.wr p mode data _ false hp).note _
 ·exact h
theorem PB.ur (h:PB c P) (p:List UInt8):PB (urC c p) P:=by
 unfold urC
 split
 ·exact (h.rm p).note _
 ·exact h
theorem PB.cr (h:PB c P) (keep torn:Int):PB (crC c keep torn) P:=by
 unfold crC
 split
 ·exact h
 ·have h1 : PB { c with pending := leftC c keep torn } P := by
   refine ⟨h.here,h.dur,fun r hr=>?_,h.plan⟩
   have hr':r∈leftC c keep torn:=hr
   unfold leftC at hr'
   rcases List.mem_append.1 hr' with hm | hm
   ·exact h.pend r (List.mem_of_mem_take hm)
   ·cases hq:c.pending[keepC c keep]? with
    | none=>rw [hq] at hm;cases hm
    | some q =>
     rw [hq] at hm
     have h':r∈(if tearsB q torn=true then [partC q torn] else []):=hm
     split at h'
     ·rw [List.mem_singleton.1 h']
      exact h.pend q (List.mem_of_getElem? hq)
     ·cases h'
  have h2:=h1.settle
  exact ⟨h2.dur,h2.dur,h2.pend,h2.plan⟩
theorem PB.planned (h:PB c P) {l:List EvM} (hl:∀ e∈l,e.path∈P):PB { c with plan:=l } P:=⟨h.here,h.dur,h.pend,hl⟩
theorem PB.up (h:PB c P):PB { c with down:=false } P:=⟨h.here,h.dur,h.pend,h.plan⟩
theorem PB.ev {s:BgC} (h:PB s.c P) (e:EvM) (he:e.path∈P):PB (evC s e).c P:=by
 have h1:PB { s.c with plan:=s.c.plan.tail } P:=h.planned fun e he=>h.plan e (List.mem_of_mem_tail he)
 unfold evC
 split
 ·exact h1.cr _ _
 ·split
  ·exact h1
  ·split
   ·exact h1
   ·split
    ·exact h1.uw _ _ _ he
    ·split
     ·exact h1.ur _
     ·exact h1
theorem PB.bgK (h:PB c P):∀ k,k≤c.plan.length→PB (Tx.bgK c k).c P
 | 0,_=>⟨h.here,h.dur,h.pend,h.plan⟩
 | k+1,hk=>by
  have hq:c.plan[k]?=some c.plan[k]:=List.getElem?_eq_getElem (by omega)
  rw [bgK_next hq]
  exact (PB.bgK h k (by omega)).ev c.plan[k] (h.plan _ (List.getElem_mem _))
theorem PB.bg (h:PB c P):PB (bgC c).c P:=h.bgK _ (bgN_le c)
theorem PB.crt (h:PB c P) (p:List UInt8) (mode:Int) (data:List UInt8) (create:Bool) (hp:p∈P):PB (crtC c p mode data create) P:=by
 unfold crtC
 split
 ·exact h.bg.wr _ _ _ _ _ hp
 ·exact h.bg
theorem PB.mov (h:PB c P) (fr tt:List UInt8) (create:Bool) (hp:tt∈P):PB (movC c fr tt create) P:=by
 unfold movC
 split
 ·exact h.bg.mv _ _ _ hp
 ·exact h.bg
theorem PB.rem (h:PB c P) (p:List UInt8):PB (remC c p) P:=by
 unfold remC
 split
 ·exact h.bg.rm _
 ·exact h.bg
theorem PB.syn (h:PB c P):PB (synC c) P:=by
 unfold synC
 split
 ·exact h.bg.settle
 ·exact h.bg
theorem PB.does (h:PB c P) {o:LOp} (hp:o.path∈P) (hd:o.dest∈P) (hl:∀ e∈o.plan,e.path∈P):PB (doesC c o) P:=by
 unfold doesC
 by_cases k0:o.kind=0
 ·rw [if_pos k0]
  exact h.crt _ _ _ _ hp
 rw [if_neg k0]
 by_cases k1:o.kind=1
 ·rw [if_pos k1]
  exact h.crt _ _ _ _ hp
 rw [if_neg k1]
 by_cases k2:o.kind=2
 ·rw [if_pos k2]
  exact h.mov _ _ _ hd
 rw [if_neg k2]
 by_cases k3:o.kind=3
 ·rw [if_pos k3]
  exact h.mov _ _ _ hd
 rw [if_neg k3]
 by_cases k4:o.kind=4
 ·rw [if_pos k4]
  exact h.rem _
 rw [if_neg k4]
 by_cases k5:o.kind=5
 ·rw [if_pos k5]
  exact h.syn
 rw [if_neg k5]
 by_cases k6:o.kind=6
 ·rw [if_pos k6]
  exact h.bg
 rw [if_neg k6]
 by_cases k7:o.kind=7
 ·rw [if_pos k7]
  exact h.bg
 rw [if_neg k7]
 by_cases k8:o.kind=8
 ·rw [if_pos k8]
  exact h.uw _ _ _ hp
 rw [if_neg k8]
 by_cases k9:o.kind=9
 ·rw [if_pos k9]
  exact h.ur _
 rw [if_neg k9]
 by_cases k10:o.kind=10
 ·rw [if_pos k10]
  exact h.cr _ _
 rw [if_neg k10]
 by_cases k11:o.kind=11
 ·rw [if_pos k11]
  exact h.up
 rw [if_neg k11]
 by_cases k12:o.kind=12
 ·rw [if_pos k12]
  refine h.planned fun e he=>?_
  have h2:e∈(o.plan.filter fun e=>decide (c.calls<e.at_)).mergeSort fun a b=>decide (a.at_≤b.at_):=he
  rw [List.mem_mergeSort] at h2
  exact hl e (List.mem_filter.1 h2).1
 rw [if_neg k12]
 exact h
theorem PB.prep (h:PB c P) (n old:List UInt8):PB (prepC c n old) P:=by
 unfold prepC
 split
 ·exact h.bg.syn
 ·exact h.bg
theorem PB.sl (h:PB c P) (n old:List UInt8) (hp:refP n∈P):PB (slC c n old) P:=by
 unfold slC
 split
 ·split
  ·exact ((h.prep n old).mov _ _ _ hp).syn
  ·exact (h.prep n old).mov _ _ _ hp
 ·exact (h.prep n old).rem _
theorem PB.set_ (h:PB c P) (n old new:List UInt8) (hl:lockP n∈P) (hp:refP n∈P):PB (setC c n old new) P:=by
 unfold setC
 split
 ·exact h
 split
 ·exact h
 split
 ·exact (h.crt _ _ _ _ hl).sl _ _ hp
 ·exact h.crt _ _ _ _ hl
theorem PB.get_ (h:PB c P) (n:List UInt8):PB (getC c n) P:=by
 unfold getC
 split
 ·exact h
 ·exact h.bg
theorem PB.del_ (h:PB c P) (n old:List UInt8):PB (delC c n old) P:=by
 unfold delC
 split
 ·exact h
 split
 ·exact h
 split
 ·exact h.bg
 split
 ·exact h.bg
 split
 ·exact (h.bg.rem _).syn
 ·exact h.bg.rem _
theorem PB.unl:∀ {l:List (List UInt8)} {c:CSt},PB c P→PB (unlC c l) P
 | [],_,h=>h
 | n::l,c,h=>by
  show PB (if remE c (lockP n)=0 then unlC (remC c (lockP n)) l else remC c (lockP n)) P
  split
  ·exact PB.unl (l:=l) (h.rem (lockP n))
  ·exact h.rem (lockP n)
theorem PB.new_ (room:Int) (P:List (List UInt8)):PB (newC room) P:=⟨fun r hr=>(by cases hr),fun r hr=>(by cases hr),fun r hr=>(by cases hr),fun r hr=>(by cases hr)⟩
theorem within_len {α:Type} [DecidableEq α]:∀ {l m:List α},l.Nodup→(∀ x∈l,x∈m)→l.length≤m.length
 | [],_,_,_=>Nat.zero_le _
 | a::l,m,h,hs=>by
  obtain ⟨h1,h2⟩:=List.nodup_cons.1 h
  have ha:a∈m:=hs a List.mem_cons_self
  have h3:=within_len (l:=l) (m:=m.erase a) h2 (fun x hx=>(List.mem_erase_of_ne (fun e:x=a=>h1 (by rw [← e];exact hx))).2 (hs x (List.mem_cons_of_mem _ hx)))
  rw [List.length_erase_of_mem ha] at h3
  have:=List.length_pos_of_mem ha
  rw [List.length_cons]
  omega
theorem ordp_nodup {R:List RowM} (h:Ord R):(R.map (·.path)).Nodup:=by
 unfold Ord at h
 exact List.pairwise_map.2 (h.imp fun h e=>by rw [e,bl_irr] at h;cases h)
theorem PB.few (h:PB c P) (ho:Ord c.here):c.here.length≤P.length:=by
 have h1:=within_len (ordp_nodup ho) (m:=P) (fun x hx=>by obtain ⟨r,hr,rfl⟩:=List.mem_map.1 hx;exact h.here r hr)
 rwa [List.length_map] at h1
theorem GoS.rem (h:GoS c i) (p:List UInt8):GoS (remC c p) (i+1):=by
 unfold remC
 split
 ·refine h.next (fun N hN=>hN.rm p) ?_ ?_
  ·unfold rmC;split <;> rfl
  ·unfold rmC;split <;> rfl
 ·exact h.bg
theorem GoS.syn (h:GoS c i):GoS (synC c) (i+1):=by
 unfold synC
 split
 ·exact h.next (fun N hN=>hN.settle.more (by omega)) rfl rfl
 ·exact h.bg
theorem GoS.prep (h:GoS c i) (n old:List UInt8):GoS (prepC c n old) (i+2):=by
 unfold prepC
 split
 ·exact h.bg.syn
 ·exact h.bg.upto (by omega)
theorem GoS.does (h:GoS c i) {o:LOp} (ho:OpOK o):GoS (doesC c o) (i+130):=by
 unfold doesC
 by_cases k0:o.kind=0
 ·rw [if_pos k0]
  exact (h.crt _ _ _ _).upto (by omega)
 rw [if_neg k0]
 by_cases k1:o.kind=1
 ·rw [if_pos k1]
  exact (h.crt _ _ _ _).upto (by omega)
 rw [if_neg k1]
 by_cases k2:o.kind=2
 ·rw [if_pos k2]
  exact (h.mov _ _ _).upto (by omega)
 rw [if_neg k2]
 by_cases k3:o.kind=3
 ·rw [if_pos k3]
  exact (h.mov _ _ _).upto (by omega)
 rw [if_neg k3]
 by_cases k4:o.kind=4
 ·rw [if_pos k4]
  exact (h.rem _).upto (by omega)
 rw [if_neg k4]
 by_cases k5:o.kind=5
 ·rw [if_pos k5]
  exact (h.syn).upto (by omega)
 rw [if_neg k5]
 by_cases k6:o.kind=6
 ·rw [if_pos k6]
  exact (h.bg).upto (by omega)
 rw [if_neg k6]
 by_cases k7:o.kind=7
 ·rw [if_pos k7]
  exact (h.bg).upto (by omega)
 rw [if_neg k7]
 by_cases k8:o.kind=8
 ·rw [if_pos k8]
  obtain ⟨⟨N,h1,h2⟩,h3,h4,h5⟩:=h
  obtain ⟨e1,e2⟩:(uwC c o.path o.mode o.data).plan=c.plan∧(uwC c o.path o.mode o.data).calls=c.calls:=by
   constructor <;> (unfold uwC noteC settleC wrC doC;split <;> (try split) <;> rfl)
  exact ⟨⟨N+2,h1.uw _ _ _,by rw [e1];omega⟩,by rw [e2];exact ⟨h3.1,by have:=h3.2;omega⟩,by rw [e1];exact h4,by rw [e1];exact h5⟩
 rw [if_neg k8]
 by_cases k9:o.kind=9
 ·rw [if_pos k9]
  obtain ⟨⟨N,h1,h2⟩,h3,h4,h5⟩:=h
  obtain ⟨e1,e2⟩:(urC c o.path).plan=c.plan∧(urC c o.path).calls=c.calls:=by
   constructor <;> (unfold urC noteC settleC rmC doC;split <;> (try split) <;> rfl)
  exact ⟨⟨N+2,h1.ur _,by rw [e1];omega⟩,by rw [e2];exact ⟨h3.1,by have:=h3.2;omega⟩,by rw [e1];exact h4,by rw [e1];exact h5⟩
 rw [if_neg k9]
 by_cases k10:o.kind=10
 ·rw [if_pos k10]
  obtain ⟨⟨N,h1,h2⟩,h3,h4,h5⟩:=h
  obtain ⟨e1,e2,_⟩:=cr_plan c o.keep o.torn
  exact ⟨⟨N,h1.cr _ _,by rw [e1];omega⟩,by rw [e2];exact ⟨h3.1,by have:=h3.2;omega⟩,by rw [e1];exact h4,by rw [e1];exact h5⟩
 rw [if_neg k10]
 by_cases k11:o.kind=11
 ·rw [if_pos k11]
  obtain ⟨⟨N,h1,h2⟩,h3,h4,h5⟩:=h
  exact ⟨⟨N,⟨h1.here,h1.both,h1.users,h1.time0,h1.time,h1.hrow,h1.drow,h1.prow⟩,by show N+2*c.plan.length≤_;omega⟩,⟨h3.1,by have:=h3.2;show c.calls≤_;omega⟩,h4,h5⟩
 rw [if_neg k11]
 by_cases k12:o.kind=12
 ·rw [if_pos k12]
  obtain ⟨⟨N,h1,h2⟩,h3,h4,h5⟩:=h
  have hl:((o.plan.filter fun e=>decide (c.calls<e.at_)).mergeSort fun a b=>decide (a.at_≤b.at_)).length≤60:=by
   rw [List.length_mergeSort]
   exact Nat.le_trans (List.length_filter_le _ _) ho.plan
  refine ⟨⟨N,h1.plan _,?_⟩,⟨h3.1,by have:=h3.2;show c.calls≤_;omega⟩,hl,fun e he=>?_⟩
  ·show N+2*((o.plan.filter fun e=>decide (c.calls<e.at_)).mergeSort fun a b=>decide (a.at_≤b.at_)).length≤_
   omega
  ·have h2:e∈(o.plan.filter fun e=>decide (c.calls<e.at_)).mergeSort fun a b=>decide (a.at_≤b.at_):=he
   rw [List.mem_mergeSort] at h2
   exact ho.paths e (List.mem_filter.1 h2).1
 rw [if_neg k12]
 exact h.upto (by omega)
end
section
variable {c:CSt} {s:FSM} {i j:Nat}
theorem TieG.rem (h:TieG c s i) (hi:i≤390000) (p:List UInt8):remE c p=removeE s p∧TieG (remC c p) (removeM s p) (i+1):=by
 obtain ⟨N,h1,h2⟩:=h.go.tfits (by omega)
 obtain ⟨j,hj⟩:=h.goM
 obtain ⟨g1,g2⟩:=h.tied.rem h1 h2 p
 exact ⟨g1,g2,h.go.rem _,_,hj.rem _⟩
theorem TieG.syn (h:TieG c s i) (hi:i≤390000):bgE c=beginE s∧TieG (synC c) (syncM s) (i+1):=by
 obtain ⟨N,h1,h2⟩:=h.go.tfits (by omega)
 obtain ⟨j,hj⟩:=h.goM
 exact ⟨h.tied.bgE h1 h2,h.tied.syn h1 h2,h.go.syn,_,hj.syn⟩
theorem TieG.new_ (room:Int):TieG (newC room) (newM room) 0:=⟨Tied.new_ room,GoS.new_ room,0,GoM.new_ room⟩
theorem TieG.ord (h:TieG c s i):Ord c.here:=by
 have h1:=h.tied.inv.ok s.pending.length
 rw [← h.tied.inv.now,← h.tied.tie.now] at h1
 exact h1.ord
end
end Go.Proofs.YtlkolcokjmlmjaaGreat.Tx
