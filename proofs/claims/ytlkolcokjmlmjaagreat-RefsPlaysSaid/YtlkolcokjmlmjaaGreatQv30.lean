/- Texts put together: VTi2, VTi3, VRf2. -/
import Derived.Test.YtlkolcokjmlmjaaGreatQv29
import Derived.Test.YtlkolcokjmlmjaaGreatQv28
set_option linter.unusedVariables false
set_option linter.unusedSimpArgs false
namespace Go.Proofs.YtlkolcokjmlmjaaGreat.Tx
def dueL (n:Int) (l:List EvM):List EvM:=l.filter fun e=>decide (e.at_=n)
structure Due (c:CSt) (s:FSM):Prop where
 srt:c.plan.Pairwise fun a b=>a.at_≤b.at_
 late:∀ e∈c.plan,c.calls<e.at_
 same:∀ n,c.calls<n→dueL n c.plan=dueL n s.plan
theorem due_front {n:Int}:∀ {l:List EvM},(l.Pairwise fun a b=>a.at_≤b.at_)→(∀ e∈l,n≤e.at_)→(l.takeWhile fun e=>decide (e.at_=n))=dueL n l∧∀ e∈l.drop (l.takeWhile fun e=>decide (e.at_=n)).length,n<e.at_
 | [],_,_=>⟨rfl,fun e he=>by simp at he⟩
 | x::l,hs,hl=>by
  obtain ⟨h1,h2⟩:=List.pairwise_cons.1 hs
  by_cases hx:x.at_=n
  ·obtain ⟨g1,g2⟩:=due_front h2 (fun e he=>hl e (List.mem_cons_of_mem _ he))
   unfold dueL at g1 ⊢
   rw [List.takeWhile_cons,List.filter_cons,if_pos (decide_eq_true hx),if_pos (decide_eq_true hx),g1]
   refine ⟨rfl,fun e he=>g2 e ?_⟩
   rw [g1]
   simpa using he
  ·have hlt:n<x.at_:=by have:=hl x List.mem_cons_self;omega
   unfold dueL
   have hf:(x::l).filter (fun e=>decide (e.at_=n))=[]:=List.filter_eq_nil_iff.2 fun e he=>by
    rcases List.mem_cons.1 he with rfl | he
    ·simpa using hx
    ·have:=h1 e he
     simp
     omega
   rw [hf,List.takeWhile_cons,if_neg (by simpa using hx)]
   refine ⟨rfl,fun e he=>?_⟩
   rcases List.mem_cons.1 (by simpa using he) with rfl | he
   ·exact hlt
   ·have:=h1 e he;omega
theorem user_calls (s:FSM) (p:List UInt8) (mode:Int) (data:List UInt8):(userWM s p mode data).calls=s.calls∧(userWM s p mode data).plan=s.plan:=by
 unfold userWM putM changeM safeM
 split
 ·split <;> exact ⟨rfl,rfl⟩
 ·exact ⟨rfl,rfl⟩
theorem user_calls' (s:FSM) (p:List UInt8):(userRM s p).calls=s.calls∧(userRM s p).plan=s.plan:=by
 unfold userRM dropM changeM safeM
 split
 ·split <;> exact ⟨rfl,rfl⟩
 ·exact ⟨rfl,rfl⟩
theorem crash_calls (s:FSM) (keep torn:Int):(crashM s keep torn).calls=s.calls∧(crashM s keep torn).plan=s.plan:=by
 unfold crashM safeM
 split <;> exact ⟨rfl,rfl⟩
theorem evM_calls (m:BegM) (e:EvM):(evM m e).st.calls=m.st.calls∧(evM m e).st.plan=m.st.plan:=by
 unfold evM
 split
 ·split
  ·exact crash_calls _ _ _
  ·split
   ·exact ⟨rfl,rfl⟩
   ·split
    ·exact ⟨rfl,rfl⟩
    ·split
     ·exact user_calls _ _ _ _
     ·split
      ·exact user_calls' _ _
      ·exact ⟨rfl,rfl⟩
 ·exact ⟨rfl,rfl⟩
theorem evs_calls:∀ (l:List EvM) (m:BegM),(l.foldl evM m).st.calls=m.st.calls∧(l.foldl evM m).st.plan=m.st.plan
 | [],m=>⟨rfl,rfl⟩
 | e::l,m=>by
  rw [List.foldl_cons]
  obtain ⟨h1,h2⟩:=evs_calls l (evM m e)
  obtain ⟨g1,g2⟩:=evM_calls m e
  exact ⟨h1.trans g1,h2.trans g2⟩
theorem evs_due {n:Int}:∀ {l:List EvM} {m:BegM},m.st.calls=n→l.foldl evM m=(dueL n l).foldl evM m
 | [],_,_=>rfl
 | e::l,m,h=>by
  unfold dueL
  rw [List.foldl_cons,List.filter_cons]
  by_cases he:e.at_=n
  ·rw [if_pos (decide_eq_true he),List.foldl_cons]
   exact evs_due ((evM_calls m e).1.trans h)
  ·rw [if_neg (by simpa using he)]
   have:evM m e=m:=by unfold evM;rw [if_neg (by rw [h];exact he)]
   rw [this]
   exact evs_due h
theorem TieB.fold:∀ {l:List EvM} {b:BgC} {m:BegM} {N:Nat},TieB b m→(∀ e∈l,e.at_=m.st.calls)→CFits b.c N→N+2*l.length≤900000→TieB (l.foldl evC b) (l.foldl evM m)
 | [],_,_,_,h,_,_,_=>h
 | e::l,b,m,N,h,he,hf,hN=>by
  rw [List.length_cons] at hN
  rw [List.foldl_cons,List.foldl_cons]
  refine TieB.fold (h.ev (he e List.mem_cons_self) (hf.small (by omega))) (fun x hx=>?_) (hf.ev e) (by omega)
  rw [(evM_calls m e).1]
  exact he x (List.mem_cons_of_mem _ hx)
theorem Inv.call {s:FSM} (h:Inv s):Inv { s with calls:=s.calls+1 }:=⟨h.now,h.ok,h.op⟩
structure Tied (c:CSt) (s:FSM):Prop where
 tie:Tie c s
 due:Due c s
 inv:Inv s
section
variable {c:CSt} {s:FSM} {N:Nat}
theorem Due.of {c':CSt} {s':FSM} (h:Due c s) (h1:c'.plan=c.plan) (h2:c'.calls=c.calls) (h3:s'.plan=s.plan):Due c' s' :=
 ⟨by rw [h1];exact h.srt,by rw [h1,h2];exact h.late,fun n hn=>by rw [h1,h3];exact h.same n (by rw [← h2];exact hn)⟩
theorem Tied.begin (h:Tied c s) (hf:CFits c N) (hN:N+2*c.plan.length≤900000):TieB (bgC c) (beginM s)∧Due (bgC c).c (beginM s).st:=by
 have hd:=due_front (n:=c.calls+1) h.due.srt (fun e he=>by have:=h.due.late e he;omega)
 have hle:=bgN_le c
 have htk:c.plan.take (bgN c)=dueL (c.calls+1) c.plan:=by
  have h1:=List.prefix_iff_eq_take.1 (List.takeWhile_prefix (fun e:EvM=>decide (e.at_=c.calls+1)) (l:=c.plan))
  rw [← hd.1]
  exact h1.symm
 have hb:bgC c=(dueL (c.calls+1) c.plan).foldl evC (bg0 c):=by unfold bgC bgK;rw [htk]
 have hm:beginM s=(dueL (c.calls+1) c.plan).foldl evM ⟨false,false,{ s with calls:=s.calls+1 }⟩:=by
  unfold beginM begM
  rw [List.take_length,evs_due (n:=c.calls+1) (by show s.calls+1=c.calls+1;rw [h.tie.calls]),h.due.same (c.calls+1) (by omega)]
 have h0:TieB (bg0 c) ⟨false,false,{ s with calls:=s.calls+1 }⟩:=⟨h.tie.call,by show c.room=s.room;exact h.tie.room,rfl,h.inv.call⟩
 have hlen:(dueL (c.calls+1) c.plan).length≤c.plan.length:=List.length_filter_le _ _
 refine ⟨?_,?_⟩
 ·rw [hb,hm]
  refine h0.fold (fun e he=>?_) (N:=N) ?_ (by omega)
  ·have h2:e.at_=c.calls+1:=of_decide_eq_true (List.mem_filter.1 he).2
   rw [h2,h.tie.calls]
  ·exact ⟨hf.here,hf.both,hf.users,hf.time0,hf.time,hf.hrow,hf.drow,hf.prow⟩
 ·obtain ⟨p1,p2⟩:=bg_plan c
  have p3:(beginM s).st.plan=s.plan:=by rw [hm];exact (evs_calls _ _).2
  refine ⟨?_,?_,fun n hn=>?_⟩
  ·rw [p1]
   exact h.due.srt.sublist (List.drop_sublist _ _)
  ·rw [p1,p2]
   exact hd.2
  ·rw [p2] at hn
   rw [p1,p3,← h.due.same n (by omega)]
   conv=>rhs;rw [← List.take_append_drop (bgN c) c.plan]
   unfold dueL
   rw [List.filter_append,htk]
   have:(dueL (c.calls+1) c.plan).filter (fun e=>decide (e.at_=n))=[]:=List.filter_eq_nil_iff.2 fun e he=>by
    have h2:e.at_=c.calls+1:=of_decide_eq_true (List.mem_filter.1 he).2
    simp
    omega
   rw [this,List.nil_append]
theorem TieB.errs {b:BgC} {m:BegM} (h:TieB b m):(if b.c.down=true then 12 else b.err)=if m.st.down=true then 12 else if m.broken=true then 11 else 0:=by rw [h.tie.down,h.err]
theorem Tied.bgE (h:Tied c s) (hf:CFits c N) (hN:N+2*c.plan.length≤900000):bgE c=beginE s:=(h.begin hf hN).1.errs
theorem Tied.begun (h:Tied c s) (hf:CFits c N) (hN:N+2*c.plan.length≤900000):Tied (bgC c).c (beginM s).st:=⟨(h.begin hf hN).1.tie,(h.begin hf hN).2,(h.begin hf hN).1.inv⟩
theorem Tied.crt (h : Tied c s) (hf : CFits c N) (hN : N + 2 * c.plan.length ≤ 900000) (p : List UInt8) (mode : Int) (data : List UInt8) (create : Bool) :
  crtE c p mode data create=writeE s p mode data create∧Tied (crtC c p mode data create) (writeM s p mode data create):=by
 have hb:=h.begin hf hN
 have he:=h.bgE hf hN
 unfold crtE crtC writeE writeM
 rw [he,hb.1.room]
 split
 ·refine ⟨hb.1.tie.wrE hb.1.inv.rows p mode data _ _ create,hb.1.tie.wr hb.1.inv.rows p mode data _ _ create,hb.2.of (wr_plan _ _ _ _ _ _).1 (wr_plan _ _ _ _ _ _).2.1 ?_,hb.1.inv.put p mode data create _ _⟩
  unfold putM changeM
  split <;> rfl
 ·exact ⟨rfl,h.begun hf hN⟩
theorem Tied.mov (h : Tied c s) (hf : CFits c N) (hN : N + 2 * c.plan.length ≤ 900000) (fr tt : List UInt8) (create : Bool) :
  movE c fr tt create=moveE s fr tt create∧Tied (movC c fr tt create) (moveM s fr tt create):=by
 have hb:=h.begin hf hN
 have he:=h.bgE hf hN
 unfold movE movC moveE moveM
 rw [he]
 split
 ·refine ⟨hb.1.tie.mvE hb.1.inv.rows fr tt create,hb.1.tie.mv hb.1.inv.rows fr tt create,hb.2.of ?_ ?_ ?_,hb.1.inv.move fr tt create⟩
  ·unfold mvC;split <;> rfl
  ·unfold mvC;split <;> rfl
  ·unfold moveM0 changeM;split <;> rfl
 ·exact ⟨rfl,h.begun hf hN⟩
theorem Tied.rem (h:Tied c s) (hf:CFits c N) (hN:N+2*c.plan.length≤900000) (p:List UInt8):remE c p=removeE s p∧Tied (remC c p) (removeM s p):=by
 have hb:=h.begin hf hN
 have he:=h.bgE hf hN
 unfold remE remC removeE removeM
 rw [he]
 split
 ·refine ⟨hb.1.tie.rmE p,hb.1.tie.rm p,hb.2.of ?_ ?_ ?_,hb.1.inv.drop p⟩
  ·unfold rmC;split <;> rfl
  ·unfold rmC;split <;> rfl
  ·unfold dropM changeM;split <;> rfl
 ·exact ⟨rfl,h.begun hf hN⟩
theorem Tied.syn (h:Tied c s) (hf:CFits c N) (hN:N+2*c.plan.length≤900000):Tied (synC c) (syncM s):=by
 have hb:=h.begin hf hN
 have he:=h.bgE hf hN
 unfold synC syncM
 rw [he]
 split
 ·exact ⟨hb.1.tie.settle,hb.2.of rfl rfl rfl,hb.1.inv.safe⟩
 ·exact h.begun hf hN
theorem Tied.red (h:Tied c s) (hf:CFits c N) (hN:N+2*c.plan.length≤900000) (p:List UInt8):redE c p=readE s p∧redF c p=readF s p:=by
 have hb:=(h.begin hf hN).1.tie.now
 have he:=h.bgE hf hN
 have h1:redE c p=readE s p:=by unfold redE readE;rw [he,hb]
 exact ⟨h1,by unfold redF readF;rw [h1,hb]⟩
theorem Tied.user (h:Tied c s) (hs:CSmall c) (p:List UInt8) (mode:Int) (data:List UInt8):uwE c p mode data=userWE s p mode data∧Tied (uwC c p mode data) (userWM s p mode data):=by
 refine ⟨h.tie.uwE h.inv.rows hs p mode data,h.tie.uw h.inv.rows hs p mode data,h.due.of ?_ ?_ (user_calls _ _ _ _).2,h.inv.userW p mode data⟩
 ·unfold uwC noteC settleC wrC doC;split <;> (try split) <;> rfl
 ·unfold uwC noteC settleC wrC doC;split <;> (try split) <;> rfl
theorem Tied.user' (h:Tied c s) (p:List UInt8):urE c p=userRE s p∧Tied (urC c p) (userRM s p):=by
 refine ⟨h.tie.urE p,h.tie.ur p,h.due.of ?_ ?_ (user_calls' _ _).2,h.inv.userR p⟩
 ·unfold urC noteC settleC rmC doC;split <;> (try split) <;> rfl
 ·unfold urC noteC settleC rmC doC;split <;> (try split) <;> rfl
theorem Tied.crash (h:Tied c s) (keep torn:Int):Tied (crC c keep torn) (crashM s keep torn):=by
 refine ⟨h.tie.crash keep torn,h.due.of (cr_plan _ _ _).1 (cr_plan _ _ _).2.1 (crash_calls _ _ _).2,h.inv.crash keep torn⟩
theorem Tied.up (h:Tied c s):Tied { c with down:=false } { s with down:=false }:=⟨h.tie.up,h.due.of rfl rfl rfl,⟨h.inv.now,h.inv.ok,h.inv.op⟩⟩
theorem Tied.new_ (room:Int):Tied (newC room) (newM room):=⟨Tie.new_ room,⟨List.Pairwise.nil,fun e he=>(by cases he),fun n _=>rfl⟩,Inv.new_ room⟩
end
end Go.Proofs.YtlkolcokjmlmjaaGreat.Tx
set_option linter.unusedVariables false
set_option linter.unusedSimpArgs false
namespace Go.Proofs.YtlkolcokjmlmjaaGreat.Tx
theorem hit_under {dir p:List UInt8} (hp:pathB p=true) (hd:pathB dir=true):prefB p (dir++[47])=underB dir p:=by
 rw [Bool.eq_iff_iff]
 unfold prefB underB
 simp only [Bool.and_eq_true,decide_eq_true_eq,beq_iff_eq,hp,hd,true_and,List.length_append,List.length_singleton]
 constructor
 ·rintro ⟨h1,h2⟩
  have h3:p[dir.length]?=some 47:=by
   have h:=congrArg (fun l=>l[dir.length]?) h2
   simp only [List.getElem?_take] at h
   rw [if_pos (by omega)] at h
   rw [h]
   simp
  have h4:p.take dir.length=dir:=by
   have h:=congrArg (fun l=>l.take dir.length) h2
   simp only [List.take_take] at h
   rw [Nat.min_eq_left (by omega)] at h
   rw [h]
   simp
  exact ⟨⟨(pathB_cut hp h3).2,h4⟩,h3⟩
 ·rintro ⟨⟨h1,h2⟩,h3⟩
  refine ⟨by omega,?_⟩
  rw [List.take_add_one,h2,h3]
  rfl
theorem list_same {R:List RowM} {t:Int} {dir:List UInt8} (h:RowsOk R t) (hd:dir=[]∨pathB dir=true):listC R dir=listL R dir:=by
 unfold listC listL pathsM
 rw [List.filter_map]
 congr 1
 refine List.filter_congr fun r hr=>?_
 show hitC dir r.path=listB dir r
 unfold hitC listB
 rcases hd with rfl | hd
 ·rfl
 ·rw [hit_under (h.row r hr).1 hd]
section
variable {c:CSt} {s:FSM} {N:Nat}
theorem Tied.lis (h:Tied c s) (hf:CFits c N) (hN:N+2*c.plan.length≤900000) (dir:List UInt8):lisE c dir=listE s dir∧lisO c dir=listO s dir:=by
 have hb:=h.begin hf hN
 have he:=h.bgE hf hN
 have h1:lisE c dir=listE s dir:=by unfold lisE listE;rw [he]
 refine ⟨h1,?_⟩
 unfold lisO listO
 rw [h1]
 split
 ·rename_i h0
  have hd:dir=[]∨pathB dir=true:=by
   unfold listE at h0
   split at h0
   ·split at h0
    ·cases h0
    ·rename_i h2
     by_cases hd:dir=[]
     ·exact .inl hd
     ·right
      cases hp:pathB dir with
      | true=>rfl
      | false=>exact absurd ⟨hd,hp⟩ h2
   ·rename_i h2
    exact absurd h0 h2
  rw [hb.1.tie.now]
  exact list_same hb.1.inv.rows hd
 ·rfl
structure Sorts (n:Int) (l R:List EvM):Prop where
 srt:R.Pairwise fun a b=>a.at_≤b.at_
 same:∀ k,dueL k R=dueL k (planR n l)
theorem Tied.plan (h:Tied c s) {l R:List EvM} (hR:Sorts c.calls l R):Tied { c with plan:=R } (planM s l):=by
 refine ⟨h.tie.planned R (planR s.calls l),⟨hR.srt,fun e he=>?_,fun n _=>?_⟩,⟨h.inv.now,h.inv.ok,h.inv.op⟩⟩
 ·have h1:e∈dueL e.at_ R:=List.mem_filter.2 ⟨he,decide_eq_true rfl⟩
  rw [hR.same] at h1
  exact of_decide_eq_true (List.mem_filter.1 (List.mem_filter.1 h1).1).2
 ·show dueL n R=dueL n (planR s.calls l)
  rw [hR.same,h.tie.calls]
theorem sorts_merge (n:Int) (l:List EvM):Sorts n l ((l.filter fun e=>decide (n<e.at_)).mergeSort fun a b=>decide (a.at_≤b.at_)):=by
 have htr:∀ a b c:EvM,decide (a.at_≤b.at_)=true→decide (b.at_≤c.at_)=true→decide (a.at_≤c.at_)=true:=fun a b c h1 h2=>by
  have:=of_decide_eq_true h1;have:=of_decide_eq_true h2;exact decide_eq_true (by omega)
 have hto:∀ a b:EvM,(decide (a.at_≤b.at_)||decide (b.at_≤a.at_))=true:=fun a b=>by
  rcases Int.le_total a.at_ b.at_ with h | h
  ·simp [h]
  ·simp [h]
 refine ⟨?_,fun k=>?_⟩
 ·exact (List.pairwise_mergeSort htr hto _).imp fun h=>of_decide_eq_true h
 ·show dueL k (List.mergeSort (planR n l) _)=dueL k (planR n l)
  have hsub:(dueL k (planR n l)).Sublist (List.mergeSort (planR n l) fun a b=>decide (a.at_≤b.at_)):=by
   refine List.sublist_mergeSort htr hto ?_ List.filter_sublist
   refine List.pairwise_of_forall_mem_list fun a ha b hb=>?_
   have h1:=of_decide_eq_true (List.mem_filter.1 ha).2
   have h2:=of_decide_eq_true (List.mem_filter.1 hb).2
   exact decide_eq_true (by omega)
  have h1:=hsub.filter fun e=>decide (e.at_=k)
  have h2:(dueL k (planR n l)).filter (fun e=>decide (e.at_=k))=dueL k (planR n l):=by unfold dueL;rw [List.filter_filter];simp
  rw [h2] at h1
  have hp:=(List.mergeSort_perm (planR n l) fun a b=>decide (a.at_≤b.at_)).filter fun e=>decide (e.at_=k)
  exact (h1.eq_of_length hp.length_eq.symm).symm
theorem Tied.planC (h:Tied c s) (l:List EvM):Tied (planC c l) (planM s l):=h.plan (sorts_merge c.calls l)
theorem Tied.does (h:Tied c s) (hf:CFits c N) (hN:N+2*c.plan.length≤900000) (o:LOp):Tied (doesC c o) (doesM s o):=by
 have hs:CSmall c:=hf.small (by omega)
 unfold doesC doesM
 by_cases k0:o.kind=0
 ·rw [if_pos k0,if_pos k0];exact (h.crt hf hN _ _ _ _).2
 rw [if_neg k0,if_neg k0]
 by_cases k1:o.kind=1
 ·rw [if_pos k1,if_pos k1];exact (h.crt hf hN _ _ _ _).2
 rw [if_neg k1,if_neg k1]
 by_cases k2:o.kind=2
 ·rw [if_pos k2,if_pos k2];exact (h.mov hf hN _ _ _).2
 rw [if_neg k2,if_neg k2]
 by_cases k3:o.kind=3
 ·rw [if_pos k3,if_pos k3];exact (h.mov hf hN _ _ _).2
 rw [if_neg k3,if_neg k3]
 by_cases k4:o.kind=4
 ·rw [if_pos k4,if_pos k4];exact (h.rem hf hN _).2
 rw [if_neg k4,if_neg k4]
 by_cases k5:o.kind=5
 ·rw [if_pos k5,if_pos k5];exact h.syn hf hN
 rw [if_neg k5,if_neg k5]
 by_cases k6:o.kind=6
 ·rw [if_pos k6,if_pos k6];exact h.begun hf hN
 rw [if_neg k6,if_neg k6]
 by_cases k7:o.kind=7
 ·rw [if_pos k7,if_pos k7];exact h.begun hf hN
 rw [if_neg k7,if_neg k7]
 by_cases k8:o.kind=8
 ·rw [if_pos k8,if_pos k8];exact (h.user hs _ _ _).2
 rw [if_neg k8,if_neg k8]
 by_cases k9:o.kind=9
 ·rw [if_pos k9,if_pos k9];exact (h.user' _).2
 rw [if_neg k9,if_neg k9]
 by_cases k10:o.kind=10
 ·rw [if_pos k10,if_pos k10];exact h.crash _ _
 rw [if_neg k10,if_neg k10]
 by_cases k11:o.kind=11
 ·rw [if_pos k11,if_pos k11];exact h.up
 rw [if_neg k11,if_neg k11]
 by_cases k12:o.kind=12
 ·rw [if_pos k12,if_pos k12];exact h.planC _
 rw [if_neg k12,if_neg k12]
 exact h
end
end Go.Proofs.YtlkolcokjmlmjaaGreat.Tx
set_option linter.unusedVariables false
set_option linter.unusedSimpArgs false
namespace Go.Proofs.YtlkolcokjmlmjaaGreat.Tx
open Go.RowKit Go.Proofs.YtlkolcokjmlmjaaGreat.Sh
theorem nameB_le {n:List UInt8} (h:nameB n=true):n.length≤64:=by
 rw [nameB_eq] at h
 simp only [Bool.and_eq_true,decide_eq_true_eq] at h
 exact h.1.1.1.2
theorem place_split {x:UInt8} {n:List UInt8} (hx:x≠47) (hn:47∉n):splitL 47 (115::47::x::47::n)=[[115],[x],n]:=by
 have h1:splitL 47 (115::47::x::47::n)=[115]::splitL 47 (x::47::n):=splitL_cut (g:=47) (a:=[115]) (by decide) (x::47::n)
 have h2:splitL 47 (x::47::n)=[x]::splitL 47 n:=splitL_cut (g:=47) (a:=[x]) (by simp;exact fun e=>hx e.symm) n
 rw [h1,h2,splitL_none hn]
theorem place_path {x:UInt8} (hx:nameB [x]=true) {n:List UInt8} (hn:nameB n=true):pathB (115::47::x::47::n)=true:=by
 have hx':x≠47:=fun e=>nameB_sign hx (by rw [e];exact List.mem_cons_self)
 rw [pathB_iff,place_split hx' (nameB_sign hn)]
 refine ⟨?_,?_,by simp⟩
 ·have:=nameB_le hn
  simp only [List.length_cons]
  omega
 ·intro p hp
  simp only [List.mem_cons,List.not_mem_nil,or_false] at hp
  rcases hp with rfl | rfl | rfl
  ·decide
  ·exact hx
  ·exact hn
theorem refP_path {n:List UInt8} (hn:nameB n=true):pathB (refP n)=true:=place_path (by decide) hn
theorem lockP_path {n:List UInt8} (hn:nameB n=true):pathB (lockP n)=true:=place_path (by decide) hn
theorem ref_lock (m n:List UInt8):refP m≠lockP n:=by
 unfold refP lockP
 simp
theorem refP_ne (n:List UInt8):refP n≠[]:=by unfold refP;simp
theorem lockP_ne (n:List UInt8):lockP n≠[]:=by unfold lockP;simp
theorem under_in {d s:List UInt8} (h:underB d s=true):s.take d.length=d∧s[d.length]?=some 47:=by
 unfold underB at h
 simp only [Bool.and_eq_true,beq_iff_eq] at h
 exact ⟨h.1.2,h.2⟩
theorem not_under {x y:UInt8} {m n:List UInt8} (hxy:x≠y):underB (115::47::x::47::m) (115::47::y::47::n)=false:=by
 cases h:underB (115::47::x::47::m) (115::47::y::47::n) with
 | false=>rfl
 | true =>
  have h1:=(under_in h).1
  simp only [List.length_cons,List.take_succ_cons,List.cons.injEq] at h1
  exact absurd h1.2.2.1.symm hxy
theorem may_to {R:List RowM} {p wo:List UInt8} (hm:mayM R p=true) (hu:underB p wo=false):mayC R p wo=true:=by
 have hr:∀ r∈R,underB p r.path=false∧underB r.path p=false:=fun r hr=>by
  have:=List.all_eq_true.1 hm r hr
  simpa using this
 have h1:blockedC R (parentsL p) wo=false:=by
  unfold blockedC
  refine List.any_eq_false.2 fun d hd=>?_
  have hs:standsM R d=false:=stands_no.2 fun r hr' e=>by
   have h2:=(hr r hr').2
   rw [e,(under_iff d p).2 hd] at h2
   cases h2
  rw [hs]
  simp
 have h2:cntM R p=0:=cnt_zero.2 fun r hr'=>(hr r hr').1
 unfold mayC
 rw [h1,h2,hu]
 decide
theorem peek_stands (R:List RowM) (p:List UInt8):peekB R p=standsM R p:=stands_find.symm
theorem peek_is {R:List RowM} (ho:Ord R) {r:RowM} (hr:r∈R):peekF R r.path=r.f:=by
 have h1:=peek_at (peek_yes hr)
 have h2:=ord_one ho h1 hr rfl
 exact congrArg RowM.f h2
theorem peek_with (R:List RowM) (p:List UInt8) (f:FileM) (q:List UInt8):peekB (withM R p f) q=(decide (q=p)||peekB R q):=by
 rw [peek_stands,peek_stands,stands_with]
theorem peekf_with {R:List RowM} (ho:Ord R) (p:List UInt8) (f:FileM):peekF (withM R p f) p=f:=peek_is (r:=⟨p,f⟩) (with_ord ho p f) (mem_with.2 (.inl rfl))
theorem peekf_other {R:List RowM} (ho:Ord R) {p q:List UInt8} (f:FileM) (h:q≠p):peekF (withM R p f) q=peekF R q:=by
 cases hs:peekB R q with
 | true=>exact peek_is (r:=⟨q,peekF R q⟩) (with_ord ho p f) (mem_with.2 (.inr ⟨peek_at hs,h⟩))
 | false =>
  rw [peek_none' hs]
  exact peek_none' (by rw [peek_with,hs];simpa using h)
theorem without_not {R:List RowM} {p:List UInt8} (h:peekB R p=false):withoutM R p=R:=by
 unfold withoutM
 rw [List.filter_eq_self]
 intro r hr
 have:r.path≠p:=fun e=>by
  have:=peek_yes hr
  rw [e,h] at this
  cases this
 simpa using this
theorem without_with (R:List RowM) (p:List UInt8) (f:FileM):withoutM (withM R p f) p=withoutM R p:=by
 obtain ⟨A,B,h1,h2,_,_⟩:=with_split R p f
 have h3:withoutM (withoutM R p) p=withoutM R p:=by
  unfold withoutM
  rw [List.filter_filter]
  simp
 rw [h2]
 rw [h1] at h3 ⊢
 unfold withoutM at h3 ⊢
 rw [List.filter_append,List.filter_cons_of_neg (by simp),← List.filter_append]
 exact h3
theorem may_with {R:List RowM} {p q:List UInt8} {f:FileM} (h:mayM R q=true) (h1:underB p q=false) (h2:underB q p=false):mayM (withM R p f) q=true:=by
 refine List.all_eq_true.2 fun r hr=>?_
 rcases mem_with.1 hr with rfl | ⟨hr,_⟩
 ·rw [h1,h2];rfl
 ·exact List.all_eq_true.1 h r hr
structure Calm (c:CSt):Prop where
 plan:c.plan=[]
 down:c.down=false
def tick (c:CSt):CSt:={ c with calls:=c.calls+1 }
theorem Calm.tick {c:CSt} (h:Calm c):Calm (tick c):=⟨h.plan,h.down⟩
theorem Calm.bg {c:CSt} (h:Calm c):(bgC c).c=Tx.tick c∧bgE c=0∧(bgC c).room=c.room:=by
 have h1:=bg_none h.plan
 refine ⟨by rw [h1];rfl,?_,by rw [h1];rfl⟩
 unfold bgE
 rw [h1]
 show (if c.down=true then (12:Int) else 0)=0
 rw [h.down]
 rfl
theorem Calm.crt {c:CSt} (h:Calm c) (p:List UInt8) (mode:Int) (data:List UInt8) (create:Bool):crtE c p mode data create=wrE c p mode data c.room create∧crtC c p mode data create=wrC (Tx.tick c) p mode data c.room create:=by
 obtain ⟨h1,h2,h3⟩:=h.bg
 unfold crtE crtC
 rw [if_pos h2,if_pos h2,h1,h3]
 exact ⟨rfl,rfl⟩
theorem Calm.mov {c:CSt} (h:Calm c) (fr tt:List UInt8) (create:Bool):movE c fr tt create=mvE c fr tt create∧movC c fr tt create=mvC (Tx.tick c) fr tt create:=by
 obtain ⟨h1,h2,_⟩:=h.bg
 unfold movE movC
 rw [if_pos h2,if_pos h2,h1]
 exact ⟨rfl,rfl⟩
theorem Calm.rem {c:CSt} (h:Calm c) (p:List UInt8):remE c p=rmE c p∧remC c p=rmC (Tx.tick c) p:=by
 obtain ⟨h1,h2,_⟩:=h.bg
 unfold remE remC
 rw [if_pos h2,if_pos h2,h1]
 exact ⟨rfl,rfl⟩
theorem Calm.syn {c:CSt} (h:Calm c):synC c=settleC (Tx.tick c):=by
 obtain ⟨h1,h2,_⟩:=h.bg
 unfold synC
 rw [if_pos h2,h1]
theorem Calm.red {c:CSt} (h:Calm c) {p:List UInt8} (hp:pathB p=true):redE c p=(if peekB c.here p=true then 0 else 7)∧redF c p=peekF c.here p:=by
 obtain ⟨h1,h2,_⟩:=h.bg
 have h3:redE c p=(if peekB c.here p=true then 0 else 7):=by
  unfold redE
  rw [if_pos h2,if_neg (by rw [hp];decide),h1]
  rfl
 refine ⟨h3,?_⟩
 unfold redF
 rw [h3,h1]
 cases hs:peekB c.here p with
 | true=>rfl
 | false=>exact (peek_none' hs).symm
structure CalmTo (c c':CSt) (R:List RowM):Prop where
 calm:Calm c'
 here:c'.here=R
 room:c'.room=c.room
 users:c'.users=c.users
theorem CalmTo.tick {c c':CSt} {R:List RowM} (h:CalmTo c c' R):CalmTo c (Tx.tick c') R:=⟨h.calm.tick,h.here,h.room,h.users⟩
theorem Calm.same {c:CSt} (h:Calm c):CalmTo c c c.here:=⟨h,rfl,rfl,rfl⟩
theorem CalmTo.do_ {c c':CSt} {R:List RowM} (h:CalmTo c c' R) (q:ChM):CalmTo c (doC c' q) (applyC R q):=⟨⟨h.calm.plan,h.calm.down⟩,by show applyC c'.here q=_;rw [h.here],h.room,h.users⟩
theorem CalmTo.settle {c c':CSt} {R:List RowM} (h:CalmTo c c' R):CalmTo c (settleC c') R:=⟨⟨h.calm.plan,h.calm.down⟩,h.here,h.room,h.users⟩
theorem Calm.get_ok {c:CSt} (h:Calm c) {n id:List UInt8} (hn:nameB n=true) (hv:validB id=true) (hs:peekB c.here (refP n)=true) (hd:(peekF c.here (refP n)).data=id++[10]):getE c n=0∧getV c n=id∧CalmTo c (getC c n) c.here:=by
 obtain ⟨h1,h2⟩:=h.red (refP_path hn)
 rw [if_pos hs] at h1
 have h3:getE c n=0:=by
  unfold getE
  rw [if_neg (by rw [hn];decide),if_neg (by rw [h1];decide),h2,hd,(hin_of hv).1]
  rfl
 refine ⟨h3,by unfold getV;rw [if_pos h3,h2,hd,(hin_of hv).2],?_⟩
 unfold getC
 rw [if_neg (by rw [hn];decide),h.bg.1]
 exact h.same.tick
theorem get_noname {c:CSt} {n:List UInt8} (hn:nameB n=false):getE c n=6∧getV c n=[]∧getC c n=c:=by
 have h3:getE c n=6:=by unfold getE;rw [if_pos hn]
 exact ⟨h3,by unfold getV;rw [h3];rfl,by unfold getC;rw [if_pos hn]⟩
theorem set_noname {c:CSt} {n:List UInt8} (hn:nameB n=false) (old new:List UInt8):setE c n old new=6∧setC c n old new=c:=⟨by unfold setE;rw [if_pos hn],by unfold setC;rw [if_pos hn]⟩
theorem set_range {c:CSt} {n old new:List UInt8} (hn:nameB n=true) (h:validB new=false∨(old≠[]∧validB old=false)):setE c n old new=1∧setC c n old new=c :=
 ⟨by unfold setE;rw [if_neg (by rw [hn];decide),if_pos h],by unfold setC;rw [if_neg (by rw [hn];decide),if_pos h]⟩
theorem set_good {c : CSt} {n old new : List UInt8} (hn : nameB n = true) (hv : validB new = true) (ho : old = [] ∨ validB old = true) :
  setE c n old new=(if crtE c (lockP n) 1 (new++[10]) true=0 then slE (crtC c (lockP n) 1 (new++[10]) true) n old else if crtE c (lockP n) 1 (new++[10]) true=8 then 13 else crtE c (lockP n) 1 (new++[10]) true) ∧
  setC c n old new=(if crtE c (lockP n) 1 (new++[10]) true=0 then slC (crtC c (lockP n) 1 (new++[10]) true) n old else crtC c (lockP n) 1 (new++[10]) true):=by
 have h1:¬ (nameB n=false):=by rw [hn];decide
 have h2:¬ (validB new=false∨(old≠[]∧validB old=false)):=by
  rintro (h | ⟨h,h'⟩)
  ·rw [hv] at h;cases h
  ·rcases ho with ho | ho
   ·exact h ho
   ·rw [ho] at h';cases h'
 unfold setE setC
 rw [if_neg h1,if_neg h2,if_neg h1,if_neg h2]
 exact ⟨rfl,rfl⟩
theorem Calm.lock_ok {c : CSt} (h : Calm c) {n new : List UInt8} (hn : nameB n = true) (hv : validB new = true) (hl : peekB c.here (lockP n) = false) (hm : mayC c.here (lockP n) [] = true) (hr : (usedM c.here : Int) + 65 ≤ c.room) :
  crtE c (lockP n) 1 (new++[10]) true=0∧crtC c (lockP n) 1 (new++[10]) true=doC (Tx.tick c) ⟨[],lockP n,⟨1,new++[10],c.time+1⟩⟩:=by
 obtain ⟨h1,h2⟩:=h.crt (lockP n) 1 (new++[10]) true
 have h65:(new++[10]).length=65:=by simp [valid_len hv]
 have h3:wrE c (lockP n) 1 (new++[10]) c.room true=0:=by
  unfold wrE
  rw [if_neg (by rw [lockP_path hn];decide),if_neg (by omega),if_neg (by rw [h65];decide),if_neg (by rw [hl];decide),if_neg (by rw [hm];decide),if_neg (by rw [h65];omega)]
 refine ⟨h1.trans h3,h2.trans ?_⟩
 unfold wrC
 have h3':wrE (Tx.tick c) (lockP n) 1 (new++[10]) c.room true=0:=h3
 rw [if_pos h3']
 rfl
theorem Calm.set_ok {c : CSt} (h : Calm c) (hO : Ord c.here) {n old new : List UInt8} (hn : nameB n = true) (hv : validB new = true) (hl : peekB c.here (lockP n) = false) (hm : mayM c.here (lockP n) = true) (hr : (usedM c.here : Int) + 65 ≤ c.room)
  (hmr:mayM c.here (refP n)=true) (ho:(old=[]∧peekB c.here (refP n)=false)∨(validB old=true∧peekB c.here (refP n)=true∧(peekF c.here (refP n)).data=old++[10])) :
  setE c n old new=0∧CalmTo c (setC c n old new) (withM c.here (refP n) ⟨1,new++[10],c.time+1⟩)∧(setC c n old new).pending=[]:=by
 obtain ⟨e1,e2⟩:=set_good (c:=c) (old:=old) hn hv (ho.imp And.left And.left)
 obtain ⟨k1,k2⟩:=h.lock_ok hn hv hl (may_to hm (under_nil _)) hr
 rw [if_pos k1,k2] at e1 e2
 obtain ⟨f,hf⟩:∃ f:FileM,(⟨1,new++[10],c.time+1⟩:FileM)=f:=⟨_,rfl⟩
 rw [hf] at e1 e2 ⊢
 have t1:CalmTo c (doC (Tx.tick c) ⟨[],lockP n,f⟩) (withM c.here (lockP n) f):=by
  have:=h.same.tick.do_ ⟨[],lockP n,f⟩
  rwa [apply_put _ _ _ (lockP_ne n)] at this
 obtain ⟨c1,hc1⟩:∃ x,doC (Tx.tick c) ⟨[],lockP n,f⟩=x:=⟨_,rfl⟩
 rw [hc1] at e1 e2 t1
 have hrl:=ref_lock n n
 have p1:peekB c1.here (refP n)=peekB c.here (refP n):=by rw [t1.here,peek_with];simp [hrl]
 have p2:peekF c1.here (refP n)=peekF c.here (refP n):=by rw [t1.here,peekf_other hO f hrl]
 obtain ⟨r1,r2⟩:=t1.calm.red (refP_path hn)
 have x1:expE c1 n old=0:=by
  unfold expE
  rw [r1,r2,p1,p2]
  rcases ho with ⟨rfl,hs⟩ | ⟨hvo,hs,hd⟩
  ·simp [hs]
  ·have hne:old≠[]:=fun e=>by rw [e] at hvo;exact absurd (valid_len hvo) (by decide)
   simp [hs,hd,hne]
 have t2:CalmTo c (synC (Tx.tick c1)) (withM c.here (lockP n) f):=by
  rw [t1.calm.tick.syn]
  exact t1.tick.tick.settle
 have b1:(bgC c1).c=Tx.tick c1:=t1.calm.bg.1
 have x2:prepE c1 n old=0∧prepC c1 n old=synC (Tx.tick c1):=by
  unfold prepE prepC
  rw [if_pos x1,if_pos x1,b1]
  exact ⟨t1.calm.tick.bg.2.1,rfl⟩
 obtain ⟨c2,hc2⟩:∃ x,synC (Tx.tick c1)=x:=⟨_,rfl⟩
 rw [hc2] at t2 x2
 obtain ⟨m1,m2⟩:=t2.calm.mov (lockP n) (refP n) false
 have q1:peekB c2.here (lockP n)=true:=by rw [t2.here,peek_with];simp
 have q2:peekF c2.here (lockP n)=f:=by rw [t2.here,peekf_with hO]
 have q3:mayC c2.here (refP n) (lockP n)=true:=by
  rw [t2.here]
  exact may_to (may_with hmr (not_under (by decide)) (not_under (by decide))) (not_under (by decide))
 have x3:mvE c2 (lockP n) (refP n) false=0:=by
  unfold mvE
  rw [if_neg (by rw [lockP_path hn,refP_path hn];decide),if_neg (by rw [q1];decide),if_neg (by simp),if_neg hrl,if_neg (by rw [q3];decide)]
 have x3':mvE (Tx.tick c2) (lockP n) (refP n) false=0:=x3
 have m3:movC c2 (lockP n) (refP n) false=doC (Tx.tick c2) ⟨lockP n,refP n,f⟩:=by
  rw [m2]
  unfold mvC
  rw [if_pos ⟨x3',hrl⟩]
  show doC (Tx.tick c2) ⟨lockP n,refP n,peekF c2.here (lockP n)⟩=_
  rw [q2]
 have t3:CalmTo c (doC (Tx.tick c2) ⟨lockP n,refP n,f⟩) (withM c.here (refP n) f):=by
  have:=t2.tick.do_ ⟨lockP n,refP n,f⟩
  rwa [apply_move _ _ _ _ (lockP_ne n) (refP_ne n),without_with,without_not hl] at this
 obtain ⟨c3,hc3⟩:∃ x,doC (Tx.tick c2) ⟨lockP n,refP n,f⟩=x:=⟨_,rfl⟩
 rw [hc3] at m3 t3
 have y1:slE c1 n old=0:=by
  unfold slE
  rw [x2.1,x2.2,if_pos rfl,m1,x3,if_pos rfl,m3]
  exact t3.calm.bg.2.1
 have y2:slC c1 n old=synC c3:=by
  unfold slC
  rw [x2.1,x2.2,if_pos rfl,m1,x3,if_pos rfl,m3]
 rw [e1,e2,y1,y2,t3.calm.syn]
 exact ⟨rfl,t3.tick.settle,rfl⟩
theorem Calm.set_wrong {c : CSt} (h : Calm c) (hO : Ord c.here) {n old new : List UInt8} (hn : nameB n = true) (hv : validB new = true) (hl : peekB c.here (lockP n) = false) (hm : mayM c.here (lockP n) = true) (hr : (usedM c.here : Int) + 65 ≤ c.room)
  (ho:(old=[]∧peekB c.here (refP n)=true)∨(validB old=true∧(peekB c.here (refP n)=true→(peekF c.here (refP n)).data≠old++[10]))) :
  setE c n old new=13∧CalmTo c (setC c n old new) c.here:=by
 obtain ⟨e1,e2⟩:=set_good (c:=c) (old:=old) hn hv (ho.imp And.left And.left)
 obtain ⟨k1,k2⟩:=h.lock_ok hn hv hl (may_to hm (under_nil _)) hr
 rw [if_pos k1,k2] at e1 e2
 obtain ⟨f,hf⟩:∃ f:FileM,(⟨1,new++[10],c.time+1⟩:FileM)=f:=⟨_,rfl⟩
 rw [hf] at e1 e2
 have t1:CalmTo c (doC (Tx.tick c) ⟨[],lockP n,f⟩) (withM c.here (lockP n) f):=by
  have:=h.same.tick.do_ ⟨[],lockP n,f⟩
  rwa [apply_put _ _ _ (lockP_ne n)] at this
 obtain ⟨c1,hc1⟩:∃ x,doC (Tx.tick c) ⟨[],lockP n,f⟩=x:=⟨_,rfl⟩
 rw [hc1] at e1 e2 t1
 have hrl:=ref_lock n n
 have p1:peekB c1.here (refP n)=peekB c.here (refP n):=by rw [t1.here,peek_with];simp [hrl]
 have p2:peekF c1.here (refP n)=peekF c.here (refP n):=by rw [t1.here,peekf_other hO f hrl]
 obtain ⟨r1,r2⟩:=t1.calm.red (refP_path hn)
 have x1:expE c1 n old=13:=by
  unfold expE
  rw [r1,r2,p1,p2]
  rcases ho with ⟨rfl,hs⟩ | ⟨hvo,hd⟩
  ·simp [hs]
  ·have hne:old≠[]:=fun e=>by rw [e] at hvo;exact absurd (valid_len hvo) (by decide)
   cases hs:peekB c.here (refP n) with
   | true=>simp [hd hs]
   | false=>simp [hne]
 have b1:(bgC c1).c=Tx.tick c1:=t1.calm.bg.1
 have x2:prepE c1 n old=13∧prepC c1 n old=Tx.tick c1:=by
  unfold prepE prepC
  rw [if_neg (by rw [x1];decide),if_neg (by rw [x1];decide),b1]
  exact ⟨x1,rfl⟩
 have y1:slE c1 n old=13:=by
  unfold slE
  rw [if_neg (by rw [x2.1];decide)]
  exact x2.1
 have q1:peekB c1.here (lockP n)=true:=by rw [t1.here,peek_with];simp
 have r3:rmE (Tx.tick (Tx.tick c1)) (lockP n)=0:=by
  show rmE c1 (lockP n)=0
  unfold rmE
  rw [if_neg (by rw [lockP_path hn];decide),if_neg (by rw [q1];decide)]
 have y2:slC c1 n old=doC (Tx.tick (Tx.tick c1)) ⟨lockP n,[],⟨0,[],0⟩⟩:=by
  unfold slC
  rw [if_neg (by rw [x2.1];decide),x2.2,(t1.calm.tick.rem (lockP n)).2]
  unfold rmC
  rw [if_pos r3]
 have t4:=t1.tick.tick.do_ ⟨lockP n,[],⟨0,[],0⟩⟩
 rw [apply_drop _ _ _ (lockP_ne n),without_with,without_not hl] at t4
 rw [e1,e2,y1,y2]
 exact ⟨rfl,t4⟩
end Go.Proofs.YtlkolcokjmlmjaaGreat.Tx
