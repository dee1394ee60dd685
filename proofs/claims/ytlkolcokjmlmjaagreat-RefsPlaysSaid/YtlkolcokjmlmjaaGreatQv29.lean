/- Texts put together: VHm0, VTi0, VTi1. -/
import Derived.Test.YtlkolcokjmlmjaaGreatQv23
set_option linter.unusedVariables false
set_option linter.unusedSimpArgs false
namespace Go.Proofs.YtlkolcokjmlmjaaGreat.Tx
theorem path_ne {p:List UInt8} (h:pathB p=true):p≠[]:=by
 rintro rfl
 revert h
 decide
theorem gone_nil (R:List RowM):goneM R []=R:=if_pos rfl
theorem gone_some (R:List RowM) {p:List UInt8} (h:p≠[]):goneM R p=withoutM R p:=if_neg h
theorem under_nil (p:List UInt8):underB p []=false:=by
 cases h:underB p [] with
 | false=>rfl
 | true =>
  unfold underB at h
  simp only [Bool.and_eq_true] at h
  exact absurd rfl (path_ne h.1.1.1.2)
theorem may_of {R:List RowM} {p wo:List UInt8} (ho:Ord R) (hw:wo=[]∨peekB R wo=true) (h:mayC R p wo=true):mayM (goneM R wo) p=true:=by
 unfold mayC at h
 rw [Bool.and_eq_true] at h
 obtain ⟨h1,h2⟩:=h
 have h2:=of_decide_eq_true h2
 have hz:cntM (goneM R wo) p=0:=by
  rcases hw with rfl | hw
  ·rw [under_nil,if_neg (by decide)] at h2
   rw [gone_nil]
   omega
  ·unfold peekB at hw
   obtain ⟨r,hr,rfl⟩:=find_some hw
   by_cases hwo:r.path=[]
   ·rw [hwo,under_nil,if_neg (by decide)] at h2
    rw [hwo,gone_nil]
    omega
   ·rw [gone_some R hwo]
    have h3:=cnt_without ho hr p
    rw [count_parents] at h3
    by_cases hu:underB p r.path=true
    ·rw [if_pos hu] at h2 h3;omega
    ·rw [if_neg hu] at h2 h3;omega
 unfold mayM
 refine List.all_eq_true.2 fun r hr=>?_
 have hu1:=cnt_zero.1 hz r hr
 have hu2:underB r.path p=false:=by
  cases hu:underB r.path p with
  | false=>rfl
  | true =>
   have hm:=(under_iff _ _).1 hu
   have hb:blockedC R (parentsL p) wo=false:=by simpa using h1
   unfold blockedC at hb
   have hb:=List.any_eq_false.1 hb _ hm
   have hs:standsM R r.path=true:=stands_iff.2 ⟨r,gone_mem hr,rfl⟩
   have hne:r.path≠wo:=by
    intro e
    by_cases hwo:wo=[]
    ·subst hwo
     have:=(under_iff _ _).2 hm
     rw [e] at this
     unfold underB at this
     simp only [Bool.and_eq_true] at this
     exact absurd rfl (path_ne this.1.1.1.1)
    ·rw [gone_some R hwo] at hr
     exact (mem_without.1 hr).2 e
   rw [hs] at hb
   simp [hne] at hb
 rw [hu1,hu2]
 rfl
theorem peek_none' {R:List RowM} {p:List UInt8} (h:peekB R p=false):peekF R p=⟨0,[],0⟩:=(peek_none (by rw [stands_find];exact h)).1
theorem peek_at {R:List RowM} {p:List UInt8} (h:peekB R p=true):(⟨p,peekF R p⟩:RowM)∈R:=by
 unfold peekB at h
 obtain ⟨i,hi⟩:=Option.isSome_iff_exists.1 h
 obtain ⟨r,hr,e⟩:=find_at hi
 have hm:=List.mem_of_getElem? hr
 have:peekF R p=r.f:=by
  unfold peekF
  rw [hi]
  show rowF R i=r.f
  unfold rowF
  rw [hr]
 rw [this,← e]
 exact hm
theorem peek_yes {R:List RowM} {r:RowM} (h:r∈R):peekB R r.path=true:=by
 unfold peekB
 rw [← stands_find]
 exact stands_iff.2 ⟨r,h,rfl⟩
def ChOk (R:List RowM) (q:ChM) (t:Int):Prop:=q.gone=[]→q.path≠[]→pathB q.path=true∧(1≤q.f.mode∧q.f.mode≤3)∧q.f.data.length≤20000∧q.f.time≤t∧mayM R q.path=true
structure InvC (c:CSt):Prop where
 here:c.here=foldC c.durable c.pending c.pending.length
 ok:∀ k,RowsOk (foldC c.durable c.pending k) c.time
 ch:∀ k q,c.pending[k]?=some q→ChOk (foldC c.durable c.pending k) q c.time
theorem wrE_ok {c : CSt} {p : List UInt8} {mode : Int} {data : List UInt8} {room : Int} {create : Bool} (h : wrE c p mode data room create = 0) :
  pathB p=true∧(1≤mode∧mode≤3)∧data.length≤20000∧mayC c.here p []=true∧(usedM c.here:Int) - ((peekF c.here p).data.length:Int)+(data.length:Int)≤room∧¬ (create=true∧peekB c.here p=true):=by
 unfold wrE at h
 split at h
 ·cases h
 ·rename_i h1
  split at h
  ·cases h
  ·rename_i h2
   split at h
   ·cases h
   ·rename_i h3
    split at h
    ·cases h
    ·rename_i h4
     split at h
     ·cases h
     ·rename_i h5
      split at h
      ·cases h
      ·exact ⟨by simpa using h1,by omega,by omega,by simpa using h5,by omega,h4⟩
theorem apply_put (R:List RowM) (p:List UInt8) (f:FileM) (h:p≠[]):applyC R ⟨[],p,f⟩=withM R p f:=by
 show (if p=[] then goneM R [] else withM (goneM R []) p f)=_
 rw [if_neg h,gone_nil]
theorem apply_move (R:List RowM) (fr p:List UInt8) (f:FileM) (hf:fr≠[]) (h:p≠[]):applyC R ⟨fr,p,f⟩=withM (withoutM R fr) p f:=by
 show (if p=[] then goneM R fr else withM (goneM R fr) p f)=_
 rw [if_neg h,gone_some _ hf]
theorem apply_drop (R:List RowM) (p:List UInt8) (f:FileM) (h:p≠[]):applyC R ⟨p,[],f⟩=withoutM R p:=by
 show (if ([]:List UInt8)=[] then goneM R p else withM (goneM R p) [] f)=_
 rw [if_pos rfl,gone_some _ h]
theorem rmE_ok {c:CSt} {p:List UInt8} (h:rmE c p=0):pathB p=true∧peekB c.here p=true:=by
 unfold rmE at h
 split at h
 ·cases h
 ·rename_i h1
  split at h
  ·cases h
  ·rename_i h2
   exact ⟨by simpa using h1,by simpa using h2⟩
theorem mvE_ok {c:CSt} {fr tt:List UInt8} {create:Bool} (h:mvE c fr tt create=0):pathB fr=true∧pathB tt=true∧peekB c.here fr=true∧¬ (create=true∧peekB c.here tt=true)∧(tt≠fr→mayC c.here tt fr=true):=by
 unfold mvE at h
 split at h
 ·cases h
 ·rename_i h1
  split at h
  ·cases h
  ·rename_i h2
   split at h
   ·cases h
   ·rename_i h3
    have hp:pathB fr=true∧pathB tt=true:=by
     cases hf:pathB fr with
     | false=>exact absurd (.inl hf) h1
     | true=>cases ht:pathB tt with
      | false=>exact absurd (.inr ht) h1
      | true=>exact ⟨rfl,rfl⟩
    split at h
    ·rename_i h4
     exact ⟨hp.1,hp.2,by simpa using h2,h3,fun hn=>absurd h4 hn⟩
    ·split at h
     ·cases h
     ·rename_i h5
      exact ⟨hp.1,hp.2,by simpa using h2,h3,fun _=>by simpa using h5⟩
theorem bgK_more {c:CSt} {k:Nat} (h:c.plan[k]?=none):bgK c (k+1)=bgK c k:=by
 have hl:c.plan.length≤k:=by simpa using h
 unfold bgK
 rw [List.take_of_length_le (by omega),List.take_of_length_le hl]
def KeptC (c:CSt):Prop:=c.users≠[]∨∀ k,(usedM (foldC c.durable c.pending k):Int)≤max c.room 0
theorem old_peek (R:List RowM) (p:List UInt8):oldM R p=(peekF R p).data.length:=by
 unfold oldM peekF
 cases findM R p with
 | none=>rfl
 | some i =>
  dsimp only
  unfold rowF
  cases R[i]? <;> rfl
structure PlanR (c:CSt) (l:List EvM) (R:List EvM):Prop where
 len:R.length=(l.filter fun e=>decide (c.calls<e.at_)).length
 mem:∀ e∈R,e∈l∧c.calls<e.at_
def DoesR (c:CSt) (o:LOp) (c':CSt):Prop:=(o.kind≠12→c'=doesC c o)∧(o.kind=12→∃ R,PlanR c o.plan R∧c'={ c with plan:=R })
theorem DoesR.keeps {P:CSt→Prop} {c c':CSt} {o:LOp} (h:DoesR c o c') (h1:P (doesC c o)) (h2:∀ R,PlanR c o.plan R→P { c with plan:=R }):P c':=by
 by_cases hk:o.kind=12
 ·obtain ⟨R,hR,rfl⟩:=h.2 hk
  exact h2 R hR
 ·rw [h.1 hk];exact h1
end Go.Proofs.YtlkolcokjmlmjaaGreat.Tx
set_option linter.unusedVariables false
set_option linter.unusedSimpArgs false
namespace Go.Proofs.YtlkolcokjmlmjaaGreat.Tx
theorem may_back {R:List RowM} {p wo:List UInt8} (ho:Ord R) (hw:wo=[]∨peekB R wo=true) (h:mayM (goneM R wo) p=true):mayC R p wo=true:=by
 unfold mayC
 rw [Bool.and_eq_true]
 constructor
 ·rw [Bool.not_eq_true']
  unfold blockedC
  rw [List.any_eq_false]
  intro q hq hs
  simp only [Bool.and_eq_true,Bool.not_eq_true',beq_eq_false_iff_ne] at hs
  obtain ⟨hs,hne⟩:=hs
  obtain ⟨r,hr,rfl⟩:=stands_iff.1 hs
  have hm:r∈goneM R wo:=by
   unfold goneM
   split
   ·exact hr
   ·exact mem_without.2 ⟨hr,hne⟩
  have h2:=(may_row h hm).2
  rw [(under_iff _ _).2 hq] at h2
  cases h2
 ·refine decide_eq_true ?_
  have hz:cntM (goneM R wo) p=0:=cnt_zero.2 fun r hr=>(may_row h hr).1
  rcases hw with rfl | hw
  ·rw [under_nil,if_neg (by decide)]
   rw [gone_nil] at hz
   omega
  ·unfold peekB at hw
   obtain ⟨r,hr,rfl⟩:=find_some hw
   by_cases hwo:r.path=[]
   ·rw [hwo,under_nil,if_neg (by decide)]
    rw [hwo,gone_nil] at hz
    omega
   ·rw [gone_some R hwo] at hz
    have h3:=cnt_without ho hr p
    rw [count_parents] at h3
    by_cases hu:underB p r.path=true
    ·rw [if_pos hu] at h3 ⊢;omega
    ·rw [if_neg hu] at h3 ⊢;omega
theorem may_iff {R:List RowM} {p wo:List UInt8} (ho:Ord R) (hw:wo=[]∨peekB R wo=true):mayC R p wo=mayM (goneM R wo) p:=by
 cases h:mayM (goneM R wo) p with
 | true=>exact may_back ho hw h
 | false =>
  cases h2:mayC R p wo with
  | false=>rfl
  | true=>rw [may_of ho hw h2] at h;cases h
theorem may_there {R:List RowM} {t:Int} {p:List UInt8} (h:RowsOk R t) (hp:peekB R p=true):mayM R p=true:=by
 have hm:=peek_at hp
 refine List.all_eq_true.2 fun r hr=>?_
 have h1:=h.tree _ hm r hr
 have h2:=h.tree r hr _ hm
 rw [h1,h2]
 rfl
def Co (R:List RowM) (q:ChM) (o:OpM):Prop :=
 (o.kind=1∧q=⟨[],o.to,o.f⟩∧o.to≠[])∨(o.kind=2∧o.fr≠[]∧o.to≠[]∧peekB R o.fr=true∧q=⟨o.fr,o.to,peekF R o.fr⟩)∨(o.kind=3∧o.fr≠[]∧q=⟨o.fr,[],q.f⟩)
theorem Co.apply {R:List RowM} {q:ChM} {o:OpM} (h:Co R q o):applyC R q=applyM R o:=by
 rcases h with ⟨h1,rfl,h3⟩ | ⟨h1,h2,h3,h4,rfl⟩ | ⟨h1,h2,h3⟩
 ·rw [apply_put _ _ _ h3]
  unfold applyM
  rw [if_pos h1]
 ·rw [apply_move _ _ _ _ h2 h3]
  unfold applyM
  rw [if_neg (by omega),if_pos h1]
  obtain ⟨i,hi⟩:=Option.isSome_iff_exists.1 (show (findM R o.fr).isSome=true from h4)
  obtain ⟨r,hr,_⟩:=find_at hi
  unfold peekF rowF
  simp only [hi,hr]
 ·rw [h3,apply_drop _ _ _ h2]
  unfold applyM
  rw [if_neg (by omega),if_neg (by omega)]
theorem Co.tears {R:List RowM} {q:ChM} {o:OpM} (h:Co R q o) (torn:Int):tearsB q torn=true↔(o.kind=1∧0≤torn∧torn<(o.f.data.length:Int)):=by
 unfold tearsB
 simp only [Bool.and_eq_true,decide_eq_true_eq]
 rcases h with ⟨h1,rfl,h3⟩ | ⟨h1,h2,h3,h4,rfl⟩ | ⟨h1,h2,h3⟩
 ·exact ⟨fun h=>⟨h1,h.2⟩,fun h=>⟨rfl,h.2⟩⟩
 ·exact ⟨fun h=>absurd h.1 h2,fun h=>by omega⟩
 ·refine ⟨fun h=>?_,fun h=>by omega⟩
  rw [h3] at h
  exact absurd h.1 h2
def PT:List RowM→List ChM→List OpM→Prop
 | _,[],[]=>True
 | R,q::l,o::m=>Co R q o∧PT (applyC R q) l m
 | _,_,_=>False
theorem PT.fold:∀ {R:List RowM} {l:List ChM} {m:List OpM},PT R l m→l.foldl applyC R=m.foldl applyM R
 | _,[],[],_=>rfl
 | R,q::l,o::m,h=>by
  rw [List.foldl_cons,List.foldl_cons,h.2.fold,h.1.apply]
 | _,[],_::_,h=>h.elim
 | _,_::_,[],h=>h.elim
theorem PT.len:∀ {R:List RowM} {l:List ChM} {m:List OpM},PT R l m→l.length=m.length
 | _,[],[],_=>rfl
 | R,q::l,o::m,h=>by rw [List.length_cons,List.length_cons,h.2.len]
 | _,[],_::_,h=>h.elim
 | _,_::_,[],h=>h.elim
theorem PT.take:∀ {R:List RowM} {l:List ChM} {m:List OpM},PT R l m→∀ k,PT R (l.take k) (m.take k)
 | _,[],[],_,k=>by rw [List.take_nil,List.take_nil];trivial
 | R,q::l,o::m,h,0=>trivial
 | R,q::l,o::m,h,k+1=>⟨h.1,h.2.take k⟩
 | _,[],_::_,h,_=>h.elim
 | _,_::_,[],h,_=>h.elim
theorem PT.snoc:∀ {R:List RowM} {l:List ChM} {m:List OpM},PT R l m→∀ {q:ChM} {o:OpM},Co (l.foldl applyC R) q o→PT R (l++[q]) (m++[o])
 | _,[],[],_,q,o,hc=>⟨hc,trivial⟩
 | R,x::l,y::m,h,q,o,hc=>⟨h.1,h.2.snoc hc⟩
 | _,[],_::_,h,_,_,_=>h.elim
 | _,_::_,[],h,_,_,_=>h.elim
theorem PT.get:∀ {R:List RowM} {l:List ChM} {m:List OpM},PT R l m→∀ {k:Nat} {q:ChM},l[k]?=some q→∃ o,m[k]?=some o∧Co ((l.take k).foldl applyC R) q o
 | _,[],[],_,k,q,hq=>by simp at hq
 | R,x::l,y::m,h,0,q,hq=>by
  have:x=q:=by simpa using hq
  subst this
  exact ⟨y,rfl,h.1⟩
 | R,x::l,y::m,h,k+1,q,hq=>by
  obtain ⟨o,h1,h2⟩:=h.2.get (show l[k]?=some q by simpa using hq)
  exact ⟨o,by simpa using h1,h2⟩
 | _,[],_::_,h,_,_,_=>h.elim
 | _,_::_,[],h,_,_,_=>h.elim
structure Tie (c:CSt) (s:FSM):Prop where
 room:c.room=s.room
 calls:c.calls=s.calls
 time:c.time=s.time
 down:c.down=s.down
 users:c.users=s.user
 now:c.here=s.now
 sure:c.durable=s.sure
 fold:c.here=c.pending.foldl applyC c.durable
 pend:PT c.durable c.pending s.pending
section
variable {c:CSt} {s:FSM}
theorem Tie.new_ (room:Int):Tie (newC room) (newM room):=⟨rfl,rfl,rfl,rfl,rfl,rfl,rfl,rfl,trivial⟩
theorem Tie.planned (h:Tie c s) (P Q:List EvM):Tie { c with plan:=P } { s with plan:=Q }:=⟨h.room,h.calls,h.time,h.down,h.users,h.now,h.sure,h.fold,h.pend⟩
theorem Tie.up (h:Tie c s):Tie { c with down:=false } { s with down:=false }:=⟨h.room,h.calls,h.time,rfl,h.users,h.now,h.sure,h.fold,h.pend⟩
theorem Tie.call (h:Tie c s):Tie { c with calls:=c.calls+1 } { s with calls:=s.calls+1 }:=⟨h.room,by rw [h.calls],h.time,h.down,h.users,h.now,h.sure,h.fold,h.pend⟩
theorem Tie.settle (h:Tie c s):Tie (settleC c) (safeM s) :=
 ⟨h.room,h.calls,h.time,h.down,h.users,h.now,by show c.pending.foldl applyC c.durable=s.now;rw [← h.fold];exact h.now,h.fold,trivial⟩
theorem Tie.do_ (h:Tie c s) {q:ChM} {o:OpM} (hc:Co c.here q (opOf s o)):Tie (doC c q) (changeM s o):=by
 have hf:applyC c.here q=applyM s.now (opOf s o):=by rw [hc.apply,h.now]
 exact ⟨h.room,h.calls,by show c.time+1=s.time+1;rw [h.time],h.down,h.users,hf,h.sure,by
  show applyC c.here q=(c.pending++[q]).foldl applyC c.durable
  rw [List.foldl_append,← h.fold]
  rfl,h.pend.snoc (by rw [← h.fold];exact hc)⟩
theorem Tie.noted (h:Tie c s) (k mo:Int) (p d:List UInt8):Tie (noteC c ⟨0,k,mo,0,0,p,d⟩) { safeM s with user:=s.user++[⟨s.calls,k,mo,0,0,p,d⟩] }:=by
 have hs:=h.settle
 refine ⟨hs.room,hs.calls,hs.time,hs.down,?_,hs.now,hs.sure,hs.fold,hs.pend⟩
 show c.users++[⟨c.calls,k,mo,0,0,p,d⟩]=s.user++[⟨s.calls,k,mo,0,0,p,d⟩]
 rw [h.users,h.calls]
theorem Tie.crash (h:Tie c s) (keep torn:Int):Tie (crC c keep torn) (crashM s keep torn):=by
 unfold crC crashM
 rw [h.down]
 split
 ·exact h
 ·have hn:keepC c keep=(min (max keep 0) (s.pending.length:Int)).toNat:=by unfold keepC;rw [h.pend.len]
  have hrow : (leftC c keep torn).foldl applyC c.durable = (match s.pending[keepC c keep]? with
    | none=>againM s (keepC c keep)
    | some o=>if o.kind=1∧0≤torn∧torn<(o.f.data.length:Int) then applyM (againM s (keepC c keep)) { o with f:={ o.f with data:=o.f.data.take torn.toNat } } else againM s (keepC c keep)):=by
   have hb:(c.pending.take (keepC c keep)).foldl applyC c.durable=againM s (keepC c keep):=by
    rw [(h.pend.take _).fold,h.sure];rfl
   unfold leftC
   rw [List.foldl_append,hb]
   cases hq:c.pending[keepC c keep]? with
   | none =>
    have:s.pending[keepC c keep]?=none:=by
     rw [List.getElem?_eq_none_iff] at hq ⊢
     rw [← h.pend.len];exact hq
    rw [this]
    rfl
   | some q =>
    obtain ⟨o,ho,hc⟩:=h.pend.get hq
    rw [ho]
    rw [hb] at hc
    show (if tearsB q torn=true then [partC q torn] else []).foldl applyC _=_
    by_cases ht:tearsB q torn=true
    ·have h3:=(hc.tears torn).1 ht
     rw [if_pos ht]
     simp only [h3,and_self,if_true]
     rcases hc with ⟨h1,rfl,h4⟩ | ⟨h1,_⟩ | ⟨h1,_⟩
     ·show applyC _ ⟨[],o.to,⟨o.f.mode,o.f.data.take torn.toNat,o.f.time⟩⟩=_
      rw [apply_put _ _ _ h4]
      unfold applyM
      rw [if_pos rfl]
     ·omega
     ·omega
    ·rw [if_neg ht]
     have h3:¬ (o.kind=1∧0≤torn∧torn<(o.f.data.length:Int)):=fun e=>ht ((hc.tears torn).2 e)
     simp only [h3,if_false]
     rfl
  rw [hn] at hrow
  refine ⟨h.room,h.calls,h.time,rfl,h.users,?_,?_,rfl,trivial⟩
  ·exact hrow
  ·exact hrow
end
end Go.Proofs.YtlkolcokjmlmjaaGreat.Tx
set_option linter.unusedVariables false
set_option linter.unusedSimpArgs false
namespace Go.Proofs.YtlkolcokjmlmjaaGreat.Tx
section
variable {c:CSt} {s:FSM}
theorem Tie.peek (h:Tie c s) (p:List UInt8):peekB c.here p=(findM s.now p).isSome:=by rw [h.now];rfl
theorem find_isNone (R:List RowM) (p:List UInt8):(findM R p).isNone=true↔peekB R p=false:=by
 unfold peekB
 cases findM R p <;> simp
theorem Tie.wrE (h : Tie c s) {t : Int} (hr : RowsOk s.now t) (p : List UInt8) (mode : Int) (data : List UInt8) (full : Bool) (room : Int) (create : Bool) :
  wrE c p mode data (if full=true then -1 else room) create=putE s p mode data create full room:=by
 have hm:(mayC c.here p []=false)↔((findM s.now p).isNone=true∧mayM s.now p=false):=by
  rw [h.now,may_iff hr.ord (.inl rfl),gone_nil,find_isNone]
  constructor
  ·intro hx
   refine ⟨?_,hx⟩
   cases hp:peekB s.now p with
   | true=>rw [may_there hr hp] at hx;cases hx
   | false=>rfl
  ·exact fun hx=>hx.2
 have ho:(oldM s.now p:Int)=((peekF c.here p).data.length:Int):=by rw [h.now,old_peek]
 have hle:oldM s.now p≤usedM s.now:=by have:=used_without p hr.ord;omega
 have hroom:((if full=true then -1 else room)<(usedM c.here:Int) - ((peekF c.here p).data.length:Int)+(data.length:Int))↔(full=true∨room<(usedM s.now:Int) - oldM s.now p+data.length):=by
  rw [← ho,h.now]
  cases full with
  | true =>
   simp only [if_true,true_or,iff_true]
   omega
  | false =>
   rw [if_neg (by decide)]
   exact ⟨.inr,fun h=>h.resolve_left (by decide)⟩
 have hc:(create=true∧peekB c.here p=true)↔((findM s.now p).isSome=true∧create=true):=by rw [h.peek];exact And.comm
 unfold Tx.wrE putE
 by_cases c1:pathB p=false
 ·rw [if_pos c1,if_pos c1]
 rw [if_neg c1,if_neg c1]
 by_cases c2:mode<1∨3<mode
 ·rw [if_pos c2,if_pos c2]
 rw [if_neg c2,if_neg c2]
 by_cases c3:20000<data.length
 ·rw [if_pos c3,if_pos c3]
 rw [if_neg c3,if_neg c3]
 by_cases c4:create=true∧peekB c.here p=true
 ·rw [if_pos c4,if_pos (hc.1 c4)]
 rw [if_neg c4,if_neg (fun e=>c4 (hc.2 e))]
 by_cases c5:mayC c.here p []=false
 ·rw [if_pos c5,if_pos (hm.1 c5)]
 rw [if_neg c5,if_neg (fun e=>c5 (hm.2 e))]
 by_cases c6:(if full=true then -1 else room)<(usedM c.here:Int) - ((peekF c.here p).data.length:Int)+(data.length:Int)
 ·rw [if_pos c6,if_pos (hroom.1 c6)]
 rw [if_neg c6,if_neg (fun e=>c6 (hroom.2 e))]
theorem Tie.wr (h : Tie c s) {t : Int} (hr : RowsOk s.now t) (p : List UInt8) (mode : Int) (data : List UInt8) (full : Bool) (room : Int) (create : Bool) :
  Tie (wrC c p mode data (if full=true then -1 else room) create) (putM s p mode data create full room):=by
 have he:=h.wrE hr p mode data full room create
 unfold wrC putM
 rw [he]
 split
 ·rename_i h0
  rw [h0] at he
  have hp:=path_ne (wrE_ok he).1
  refine h.do_ (.inl ?_)
  rw [opOf_yes rfl]
  exact ⟨rfl,by rw [h.time],hp⟩
 ·exact h
theorem Tie.rmE (h:Tie c s) (p:List UInt8):rmE c p=dropE s p:=by
 unfold Tx.rmE dropE
 by_cases c1:pathB p=false
 ·rw [if_pos c1,if_pos c1]
 rw [if_neg c1,if_neg c1]
 by_cases c2:peekB c.here p=false
 ·rw [if_pos c2,if_pos ((find_isNone _ _).2 (by rw [← h.now];exact c2))]
 ·rw [if_neg c2,if_neg (fun e=>c2 (by rw [h.now];exact (find_isNone _ _).1 e))]
theorem Tie.rm (h:Tie c s) (p:List UInt8):Tie (rmC c p) (dropM s p):=by
 have he:=h.rmE p
 unfold rmC dropM
 rw [he]
 split
 ·rename_i h0
  rw [h0] at he
  have hp:=path_ne (rmE_ok he).1
  refine h.do_ (.inr (.inr ?_))
  rw [opOf_no (by show (3:Int)≠1;decide)]
  exact ⟨rfl,hp,rfl⟩
 ·exact h
theorem Tie.mvE (h:Tie c s) {t:Int} (hr:RowsOk s.now t) (fr tt:List UInt8) (create:Bool):mvE c fr tt create=moveE0 s fr tt create:=by
 unfold Tx.mvE moveE0
 by_cases c1:pathB fr=false∨pathB tt=false
 ·rw [if_pos c1,if_pos c1]
 rw [if_neg c1,if_neg c1]
 have hfr:fr≠[]:=path_ne (by simpa using fun e=>c1 (.inl e))
 by_cases c2:peekB c.here fr=false
 ·rw [if_pos c2,if_pos ((find_isNone _ _).2 (by rw [← h.now];exact c2))]
 rw [if_neg c2,if_neg (show ¬ (findM s.now fr).isNone=true from fun e=>c2 (by rw [h.now];exact (find_isNone _ _).1 e))]
 have hpf:peekB s.now fr=true:=by rw [← h.now];simpa using c2
 by_cases c3:create=true∧peekB c.here tt=true
 ·rw [if_pos c3,if_pos (by rw [h.peek] at c3;exact c3)]
 rw [if_neg c3,if_neg (show ¬ (create=true∧(findM s.now tt).isSome=true) from fun e=>c3 (by rw [h.peek];exact e))]
 by_cases c4:tt=fr
 ·rw [if_pos c4,if_pos c4.symm]
 rw [if_neg c4,if_neg (show ¬ fr=tt from fun e=>c4 e.symm)]
 have hm:(mayC c.here tt fr=false)↔((findM s.now tt).isNone=true∧mayM (withoutM s.now fr) tt=false):=by
  rw [h.now,may_iff hr.ord (.inr hpf),gone_some _ hfr,find_isNone]
  constructor
  ·intro hx
   refine ⟨?_,hx⟩
   cases hp:peekB s.now tt with
   | true =>
    have h2:peekB (withoutM s.now fr) tt=true:=by
     have:=stands_without (R:=s.now) (p:=fr) (q:=tt)
     rw [stands_find,stands_find,decide_eq_false c4,Bool.not_false,Bool.true_and] at this
     show (findM (withoutM s.now fr) tt).isSome=true
     rw [this]
     exact hp
    rw [may_there (hr.without fr) h2] at hx
    cases hx
   | false=>rfl
  ·exact fun hx=>hx.2
 by_cases c5:mayC c.here tt fr=false
 ·rw [if_pos c5,if_pos (hm.1 c5)]
 rw [if_neg c5,if_neg (show ¬ ((findM s.now tt).isNone=true∧mayM (withoutM s.now fr) tt=false) from fun e=>c5 (hm.2 e))]
theorem Tie.mv (h:Tie c s) {t:Int} (hr:RowsOk s.now t) (fr tt:List UInt8) (create:Bool):Tie (mvC c fr tt create) (moveM0 s fr tt create):=by
 have he:=h.mvE hr fr tt create
 unfold mvC moveM0
 rw [he]
 by_cases h0:moveE0 s fr tt create=0∧tt≠fr
 ·rw [if_pos h0,if_pos ⟨h0.1,fun e=>h0.2 e.symm⟩]
  rw [h0.1] at he
  obtain ⟨g1,g2,g3,_⟩:=mvE_ok he
  refine h.do_ (.inr (.inl ?_))
  rw [opOf_no (by show (2:Int)≠1;decide)]
  exact ⟨rfl,path_ne g1,path_ne g2,g3,rfl⟩
 ·rw [if_neg h0,if_neg (fun e=>h0 ⟨e.1,fun x=>e.2 x.symm⟩)]
  exact h
theorem wr_much (hs:CSmall c) (p:List UInt8) (mode:Int) (data:List UInt8):wrE c p mode data 9223372036854775807 false=wrE c p mode data 1152921504606846976 false∧wrC c p mode data 9223372036854775807 false=wrC c p mode data 1152921504606846976 false:=by
 have hu:=hs.hused
 have he:wrE c p mode data 9223372036854775807 false=wrE c p mode data 1152921504606846976 false:=by
  unfold wrE
  by_cases c3:20000<data.length
  ·simp only [c3,if_true]
  ·have k1:¬ ((9223372036854775807:Int)<(usedM c.here:Int) - ((peekF c.here p).data.length:Int)+(data.length:Int)):=by omega
   have k2:¬ ((1152921504606846976:Int)<(usedM c.here:Int) - ((peekF c.here p).data.length:Int)+(data.length:Int)):=by omega
   simp only [k1,k2]
 exact ⟨he,by unfold wrC;rw [he]⟩
theorem Tie.uwE (h:Tie c s) {t:Int} (hr:RowsOk s.now t) (hs:CSmall c) (p:List UInt8) (mode:Int) (data:List UInt8):uwE c p mode data=userWE s p mode data:=by
 have h1:=h.wrE hr p mode data false 1152921504606846976 false
 rw [if_neg (by decide)] at h1
 unfold Tx.uwE userWE
 rw [h.down,(wr_much hs p mode data).1,h1]
theorem Tie.uw (h:Tie c s) {t:Int} (hr:RowsOk s.now t) (hs:CSmall c) (p:List UInt8) (mode:Int) (data:List UInt8):Tie (uwC c p mode data) (userWM s p mode data):=by
 have h2:=h.wr hr p mode data false 1152921504606846976 false
 rw [if_neg (by decide)] at h2
 unfold uwC userWM
 rw [h.uwE hr hs,(wr_much hs p mode data).2]
 split
 ·exact h2.noted 4 mode p data
 ·exact h
theorem Tie.urE (h:Tie c s) (p:List UInt8):urE c p=userRE s p:=by
 unfold Tx.urE userRE
 rw [h.down,h.rmE]
theorem Tie.ur (h:Tie c s) (p:List UInt8):Tie (urC c p) (userRM s p):=by
 unfold urC userRM
 rw [h.urE]
 split
 ·exact (h.rm p).noted 5 0 p []
 ·exact h
end
structure TieB (b:BgC) (m:BegM):Prop where
 tie:Tie b.c m.st
 room:b.room=if m.full=true then -1 else m.st.room
 err:b.err=if m.broken=true then 11 else 0
 inv:Inv m.st
theorem user_room (s:FSM) (p:List UInt8) (mode:Int) (data:List UInt8):(userWM s p mode data).room=s.room:=by
 unfold userWM putM changeM safeM
 split
 ·split <;> rfl
 ·rfl
theorem user_room' (s:FSM) (p:List UInt8):(userRM s p).room=s.room:=by
 unfold userRM dropM changeM safeM
 split
 ·split <;> rfl
 ·rfl
theorem crash_room (s:FSM) (keep torn:Int):(crashM s keep torn).room=s.room:=by
 unfold crashM safeM
 split <;> rfl
theorem TieB.ev {b:BgC} {m:BegM} (h:TieB b m) {e:EvM} (he:e.at_=m.st.calls) (hs:CSmall b.c):TieB (evC b e) (evM m e):=by
 have h0:Tie { b.c with plan:=b.c.plan.tail } m.st:=h.tie.planned b.c.plan.tail m.st.plan
 have hs0:CSmall { b.c with plan:=b.c.plan.tail }:=⟨hs.here,hs.both,hs.users,hs.time,hs.hused,hs.hrow,hs.drow,hs.prow⟩
 have hi:=h.inv.ev e
 unfold evC evM
 unfold evM at hi
 rw [if_pos he] at hi ⊢
 by_cases k1:e.kind=1
 ·rw [if_pos k1] at hi ⊢
  rw [if_pos k1]
  exact ⟨h0.crash _ _,by rw [show (crashM m.st e.keep e.torn).room=m.st.room from crash_room _ _ _];exact h.room,h.err,hi⟩
 rw [if_neg k1] at hi ⊢
 rw [if_neg k1]
 by_cases k2:e.kind=2
 ·rw [if_pos k2] at hi ⊢
  rw [if_pos k2]
  exact ⟨h0,rfl,h.err,hi⟩
 rw [if_neg k2] at hi ⊢
 rw [if_neg k2]
 by_cases k3:e.kind=3
 ·rw [if_pos k3] at hi ⊢
  rw [if_pos k3]
  exact ⟨h0,h.room,rfl,hi⟩
 rw [if_neg k3] at hi ⊢
 rw [if_neg k3]
 by_cases k4:e.kind=4
 ·rw [if_pos k4] at hi ⊢
  rw [if_pos k4]
  exact ⟨h0.uw h.inv.rows hs0 _ _ _,by rw [show (userWM m.st e.path e.mode e.data).room=m.st.room from user_room _ _ _ _];exact h.room,h.err,hi⟩
 rw [if_neg k4] at hi ⊢
 rw [if_neg k4]
 by_cases k5:e.kind=5
 ·rw [if_pos k5] at hi ⊢
  rw [if_pos k5]
  exact ⟨h0.ur _,by rw [show (userRM m.st e.path).room=m.st.room from user_room' _ _];exact h.room,h.err,hi⟩
 rw [if_neg k5] at hi ⊢
 rw [if_neg k5]
 exact ⟨h0,h.room,h.err,hi⟩
end Go.Proofs.YtlkolcokjmlmjaaGreat.Tx
