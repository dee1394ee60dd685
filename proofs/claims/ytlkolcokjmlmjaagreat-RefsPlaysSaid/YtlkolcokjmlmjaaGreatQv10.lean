/- Texts put together: VFm2, VFm3, VFm4, VFm5, VFx13. -/
import Derived.Test.YtlkolcokjmlmjaaGreatQv09
namespace Go.Proofs.YtlkolcokjmlmjaaGreat.Tx
structure Fits (st:FSM) (N:Nat):Prop where
 now:st.now.length≤N
 both:st.sure.length+st.pending.length≤N
 user:st.user.length≤N
 time0:0≤st.time
 time:st.time≤(N:Int)
 nrow:∀ r∈st.now,r.path.length≤1000∧r.f.data.length≤20000
 srow:∀ r∈st.sure,r.path.length≤1000∧r.f.data.length≤20000
 prow:∀ o∈st.pending,o.to.length≤1000∧o.f.data.length≤20000
theorem without_sub {R:List RowM} {p:List UInt8} {r:RowM} (h:r∈withoutM R p):r∈R:=(List.mem_filter.1 h).1
theorem with_mem {R:List RowM} {p:List UInt8} {f:FileM} {r:RowM} (h:r∈withM R p f):r∈R∨r=⟨p,f⟩:=by
 unfold withM at h
 simp only [List.append_assoc,List.mem_append,List.mem_singleton] at h
 rcases h with h | h | h
 ·exact .inl (without_sub (List.mem_of_mem_take h))
 ·exact .inr h
 ·exact .inl (without_sub (List.mem_of_mem_drop h))
theorem apply_row {R:List RowM} {o:OpM} {a d:Nat} (hR:∀ r∈R,r.path.length≤a∧r.f.data.length≤d) (ho:o.to.length≤a∧o.f.data.length≤d):∀ r∈applyM R o,r.path.length≤a∧r.f.data.length≤d:=by
 intro r hr
 unfold applyM at hr
 split at hr
 ·rcases with_mem hr with h | h
  ·exact hR r h
  ·rw [h];exact ho
 ·split at hr
  ·split at hr
   ·exact hR r hr
   ·split at hr
    ·exact hR r hr
    ·rename_i r' hr'
     rcases with_mem hr with h | h
     ·exact hR r (without_sub h)
     ·rw [h];exact ⟨ho.1,(hR r' (List.mem_of_getElem? hr')).2⟩
  ·exact hR r (without_sub hr)
theorem used_bound:∀ {R:List RowM} {d:Nat},(∀ r∈R,r.f.data.length≤d)→usedM R≤R.length*d
 | [],d,_=>by simp [usedM]
 | r::R,d,h=>by
  have ih:=used_bound (R:=R) (d:=d) (fun x hx=>h x (List.mem_cons_of_mem _ hx))
  have h1:=h r List.mem_cons_self
  unfold usedM at ih ⊢
  rw [List.map_cons,List.sum_cons,List.length_cons,Nat.add_mul]
  omega
theorem Fits.used {st:FSM} {N:Nat} (h:Fits st N) (hN:N≤1000000):usedM st.now≤4000000000000:=by
 have h1:=used_bound (fun r hr=>(h.nrow r hr).2)
 have h2:st.now.length*20000≤1000000*20000:=Nat.mul_le_mul_right _ (Nat.le_trans h.now hN)
 omega
theorem Fits.more {st:FSM} {N N':Nat} (h:Fits st N) (hN:N≤N'):Fits st N':=⟨Nat.le_trans h.now hN,Nat.le_trans h.both hN,Nat.le_trans h.user hN,h.time0,by have:=h.time;omega,h.nrow,h.srow,h.prow⟩
theorem Fits.change {st:FSM} {N:Nat} (h:Fits st N) {o:OpM} (ho:o.to.length≤1000∧o.f.data.length≤20000):Fits (changeM st o) (N+1):=by
 have ho':(opOf st o).to.length≤1000∧(opOf st o).f.data.length≤20000:=by
  unfold opOf
  split
  ·exact ho
  ·exact ho
 have hb:=h.both
 have hn:=h.now
 have ht:=h.time
 have ht0:=h.time0
 have e:changeM st o={ st with time:=st.time+1,now:=applyM st.now (opOf st o),pending:=st.pending++[opOf st o] }:=rfl
 rw [e]
 refine ⟨Nat.le_trans (apply_len _ _) (by omega),?_,Nat.le_trans h.user (by omega),?_,?_,apply_row h.nrow ho',h.srow,fun q hq=>?_⟩
 ·simp only [List.length_append,List.length_singleton];omega
 ·show 0≤st.time+1
  omega
 ·show st.time+1≤_
  omega
 ·rcases List.mem_append.1 hq with hq | hq
  ·exact h.prow q hq
  ·rw [List.mem_singleton.1 hq];exact ho'
theorem Fits.safe {st:FSM} {N:Nat} (h:Fits st N):Fits (safeM st) N:=⟨h.now,by show st.now.length+0≤N;exact h.now,h.user,h.time0,h.time,h.nrow,h.nrow,fun o ho=>by cases ho⟩
theorem Fits.noted {st:FSM} {N:Nat} (h:Fits st N) (e:EvM):Fits { st with user:=st.user++[e] } (N+1) :=
 ⟨Nat.le_trans h.now (by omega),Nat.le_trans h.both (by omega),by have:=h.user;simp only [List.length_append,List.length_singleton];omega,h.time0,by have:=h.time;show st.time≤_;omega,h.nrow,h.srow,h.prow⟩
theorem putE_path {st:FSM} {p:List UInt8} {mode:Int} {data:List UInt8} {only full:Bool} {room:Int} (h:putE st p mode data only full room=0):p.length≤200:=by
 unfold putE at h
 split at h
 ·cases h
 ·rename_i hp
  exact pathB_len (by simpa using hp)
theorem Fits.put {st:FSM} {N:Nat} (h:Fits st N) (p:List UInt8) (mode:Int) (data:List UInt8) (only full:Bool) (room:Int):Fits (putM st p mode data only full room) (N+1):=by
 unfold putM
 split
 ·rename_i he
  exact h.change ⟨by have:=putE_path he;show p.length≤1000;omega,putE_len he⟩
 ·exact h.more (by omega)
theorem Fits.drop {st:FSM} {N:Nat} (h:Fits st N) (p:List UInt8):Fits (dropM st p) (N+1):=by
 unfold dropM
 split
 ·exact h.change ⟨Nat.zero_le _,Nat.zero_le _⟩
 ·exact h.more (by omega)
theorem Fits.userW {st:FSM} {N:Nat} (h:Fits st N) (p:List UInt8) (mode:Int) (data:List UInt8):Fits (userWM st p mode data) (N+2):=by
 unfold userWM
 split
 ·exact ((h.put p mode data false false _).safe).noted _
 ·exact h.more (by omega)
theorem Fits.userR {st:FSM} {N:Nat} (h:Fits st N) (p:List UInt8):Fits (userRM st p) (N+2):=by
 unfold userRM
 split
 ·exact ((h.drop p).safe).noted _
 ·exact h.more (by omega)
theorem again_row {st:FSM} {N:Nat} (h:Fits st N):∀ k,∀ r∈againM st k,r.path.length≤1000∧r.f.data.length≤20000
 | 0=>by simp only [againM,List.take_zero,List.foldl_nil];exact h.srow
 | k+1=>by
  cases ho:st.pending[k]? with
  | none =>
   have hl:st.pending.length≤k:=by simpa using ho
   have e:againM st (k+1)=againM st k:=by
    unfold againM
    rw [List.take_of_length_le hl,List.take_of_length_le (by omega)]
   rw [e];exact again_row h k
  | some o =>
   rw [again_next ho]
   exact apply_row (again_row h k) (h.prow o (List.mem_of_getElem? ho))
theorem Fits.crash {st:FSM} {N:Nat} (h:Fits st N) (keep torn:Int):Fits (crashM st keep torn) (N+1):=by
 cases hd:st.down with
 | true=>rw [crash_down hd];exact h.more (by omega)
 | false =>
  rw [crash_up hd]
  have hk:keepM st keep≤st.pending.length:=by unfold keepM;omega
  have hb:=h.both
  have hlen:(tornM st keep torn).length≤N+1:=by
   have h1:=again_len st (keepM st keep)
   unfold tornM
   split
   ·omega
   ·split
    ·rename_i o _ _
     have:=apply_len (againM st (keepM st keep)) { o with f:={ o.f with data:=o.f.data.take torn.toNat } }
     omega
    ·omega
  have hrow:∀ r∈tornM st keep torn,r.path.length≤1000∧r.f.data.length≤20000:=by
   unfold tornM
   split
   ·exact again_row h _
   ·rename_i o ho
    split
    ·have hp:=h.prow o (List.mem_of_getElem? ho)
     exact apply_row (again_row h _) ⟨hp.1,by show (o.f.data.take torn.toNat).length≤20000;rw [List.length_take];omega⟩
    ·exact again_row h _
  exact ⟨hlen,by show (tornM st keep torn).length+0≤N+1;exact hlen,Nat.le_trans h.user (by omega),h.time0,by have:=h.time;show st.time≤_;omega,hrow,hrow,fun o ho=>by cases ho⟩
structure BegM where
 full:Bool
 broken:Bool
 st:FSM
def evM (s:BegM) (e:EvM):BegM :=
 if e.at_=s.st.calls then
  if e.kind=1 then { s with st:=crashM s.st e.keep e.torn }
  else if e.kind=2 then { s with full:=true }
  else if e.kind=3 then { s with broken:=true }
  else if e.kind=4 then { s with st:=userWM s.st e.path e.mode e.data }
  else if e.kind=5 then { s with st:=userRM s.st e.path }
  else s
 else s
def begM (st:FSM) (k:Nat):BegM:=(st.plan.take k).foldl evM ⟨false,false,{ st with calls:=st.calls+1 }⟩
def beginM (st:FSM):BegM:=begM st st.plan.length
def beginE (st:FSM):Int:=if (beginM st).st.down=true then 12 else if (beginM st).broken=true then 11 else 0
theorem Fits.ev {s:BegM} {N:Nat} (h:Fits s.st N) (e:EvM):Fits (evM s e).st (N+2):=by
 unfold evM
 split
 ·split
  ·exact (h.crash _ _).more (by omega)
  ·split
   ·exact h.more (by omega)
   ·split
    ·exact h.more (by omega)
    ·split
     ·exact h.userW _ _ _
     ·split
      ·exact h.userR _
      ·exact h.more (by omega)
 ·exact h.more (by omega)
theorem beg_next {st:FSM} {k:Nat} {e:EvM} (h:st.plan[k]?=some e):begM st (k+1)=evM (begM st k) e:=by
 unfold begM
 obtain ⟨hl,he⟩:=List.getElem?_eq_some_iff.1 h
 rw [List.take_succ_eq_append_getElem hl,List.foldl_append,he]
 rfl
theorem Fits.beg {st:FSM} {N:Nat} (h:Fits st N):∀ k,Fits (begM st k).st (N+2*k)
 | 0=>⟨h.now,h.both,h.user,h.time0,h.time,h.nrow,h.srow,h.prow⟩
 | k+1=>by
  cases he:st.plan[k]? with
  | none =>
   have hl:st.plan.length≤k:=by simpa using he
   have e:begM st (k+1)=begM st k:=by
    unfold begM
    rw [List.take_of_length_le hl,List.take_of_length_le (by omega)]
   rw [e];exact (Fits.beg h k).more (by omega)
  | some e =>
   rw [beg_next he]
   exact ((Fits.beg h k).ev e).more (by omega)
theorem put_keeps (st:FSM) (p:List UInt8) (mode:Int) (data:List UInt8) (only full:Bool) (room:Int):(putM st p mode data only full room).plan=st.plan∧(putM st p mode data only full room).calls=st.calls∧(putM st p mode data only full room).room=st.room:=by
 unfold putM;split <;> exact ⟨rfl,rfl,rfl⟩
theorem drop_keeps (st:FSM) (p:List UInt8):(dropM st p).plan=st.plan∧(dropM st p).calls=st.calls∧(dropM st p).room=st.room:=by
 unfold dropM;split <;> exact ⟨rfl,rfl,rfl⟩
theorem userW_keeps (st:FSM) (p:List UInt8) (mode:Int) (data:List UInt8):(userWM st p mode data).plan=st.plan∧(userWM st p mode data).calls=st.calls∧(userWM st p mode data).room=st.room:=by
 unfold userWM
 split
 ·exact put_keeps st p mode data false false _
 ·exact ⟨rfl,rfl,rfl⟩
theorem userR_keeps (st:FSM) (p:List UInt8):(userRM st p).plan=st.plan∧(userRM st p).calls=st.calls∧(userRM st p).room=st.room:=by
 unfold userRM
 split
 ·exact drop_keeps st p
 ·exact ⟨rfl,rfl,rfl⟩
theorem crash_keeps (st:FSM) (keep torn:Int):(crashM st keep torn).plan=st.plan∧(crashM st keep torn).calls=st.calls∧(crashM st keep torn).room=st.room:=by
 cases h:st.down with
 | true=>rw [crash_down h];exact ⟨rfl,rfl,rfl⟩
 | false=>rw [crash_up h];exact ⟨rfl,rfl,rfl⟩
theorem ev_keeps (s:BegM) (e:EvM):(evM s e).st.plan=s.st.plan∧(evM s e).st.calls=s.st.calls∧(evM s e).st.room=s.st.room:=by
 unfold evM
 split
 ·split
  ·exact crash_keeps _ _ _
  ·split
   ·exact ⟨rfl,rfl,rfl⟩
   ·split
    ·exact ⟨rfl,rfl,rfl⟩
    ·split
     ·exact userW_keeps _ _ _ _
     ·split
      ·exact userR_keeps _ _
      ·exact ⟨rfl,rfl,rfl⟩
 ·exact ⟨rfl,rfl,rfl⟩
theorem beg_keeps (st:FSM):∀ k,(begM st k).st.plan=st.plan∧(begM st k).st.calls=st.calls+1∧(begM st k).st.room=st.room
 | 0=>⟨rfl,rfl,rfl⟩
 | k+1=>by
  have ih:=beg_keeps st k
  cases he:st.plan[k]? with
  | none =>
   have hl:st.plan.length≤k:=by simpa using he
   have e:begM st (k+1)=begM st k:=by
    unfold begM
    rw [List.take_of_length_le hl,List.take_of_length_le (by omega)]
   rw [e];exact ih
  | some e =>
   rw [beg_next he]
   have h:=ev_keeps (begM st k) e
   exact ⟨h.1.trans ih.1,h.2.1.trans ih.2.1,h.2.2.trans ih.2.2⟩
end Go.Proofs.YtlkolcokjmlmjaaGreat.Tx
namespace Go.Proofs.YtlkolcokjmlmjaaGreat.Tx
def Ord (R:List RowM):Prop:=R.Pairwise fun a b=>bl a.path b.path=true
theorem mem_without {R:List RowM} {p:List UInt8} {r:RowM}:r∈withoutM R p↔r∈R∧r.path≠p:=by
 unfold withoutM
 rw [List.mem_filter]
 simp
theorem without_ord {R:List RowM} (h:Ord R) (p:List UInt8):Ord (withoutM R p):=List.Pairwise.filter _ h
theorem take_of {α:Type} {R A B:List α} (h:A++B=R):R.take A.length=A∧R.drop A.length=B:=by
 subst h
 exact ⟨List.take_left,List.drop_left⟩
theorem head_take (R:List RowM) (p:List UInt8):R.take (headM R p)=R.takeWhile (fun r=>bl r.path p)∧R.drop (headM R p)=R.dropWhile (fun r=>bl r.path p) :=
 take_of (List.takeWhile_append_dropWhile (p:=fun r:RowM=>bl r.path p) (l:=R))
theorem with_split (R:List RowM) (p:List UInt8) (f:FileM):∃ A B,withoutM R p=A++B∧withM R p f=A++⟨p,f⟩::B∧A=(withoutM R p).takeWhile (fun r=>bl r.path p)∧B=(withoutM R p).dropWhile (fun r=>bl r.path p):=by
 refine ⟨_,_,(List.takeWhile_append_dropWhile (p:=fun r:RowM=>bl r.path p) (l:=withoutM R p)).symm,?_,rfl,rfl⟩
 unfold withM
 simp only [(head_take (withoutM R p) p).1,(head_take (withoutM R p) p).2,List.append_assoc,List.singleton_append]
theorem mem_with {R:List RowM} {p:List UInt8} {f:FileM} {r:RowM}:r∈withM R p f↔r=⟨p,f⟩∨(r∈R∧r.path≠p):=by
 obtain ⟨A,B,h1,h2,_,_⟩:=with_split R p f
 rw [h2,← mem_without,h1,List.mem_append,List.mem_append,List.mem_cons]
 constructor
 ·rintro (h | h | h)
  ·exact .inr (.inl h)
  ·exact .inl h
  ·exact .inr (.inr h)
 ·rintro (h | h | h)
  ·exact .inr (.inl h)
  ·exact .inl h
  ·exact .inr (.inr h)
theorem drop_gt {p:List UInt8}:∀ {m:List RowM},Ord m→(∀ r∈m,r.path≠p)→∀ r∈m.dropWhile (fun r=>bl r.path p),bl p r.path=true
 | [],_,_,r,h=>by cases h
 | a::m,ho,hn,r,h=>by
  rw [List.dropWhile_cons] at h
  have ho':=List.pairwise_cons.1 ho
  split at h
  ·exact drop_gt ho'.2 (fun x hx=>hn x (List.mem_cons_of_mem _ hx)) r h
  ·rename_i hb
   have ha:bl p a.path=true:=by
    rcases bl_tri a.path p with h1 | h1 | h1
    ·exact absurd h1 hb
    ·exact absurd h1 (hn a List.mem_cons_self)
    ·exact h1
   rcases List.mem_cons.1 h with rfl | h
   ·exact ha
   ·exact bl_trans _ _ _ ha (ho'.1 r h)
theorem take_lt {p:List UInt8}:∀ {m:List RowM},∀ r∈m.takeWhile (fun r=>bl r.path p),bl r.path p=true
 | [],r,h=>by cases h
 | a::m,r,h=>by
  rw [List.takeWhile_cons] at h
  split at h
  ·rename_i hb
   rcases List.mem_cons.1 h with rfl | h
   ·exact hb
   ·exact take_lt r h
  ·cases h
theorem with_ord {R:List RowM} (h:Ord R) (p:List UInt8) (f:FileM):Ord (withM R p f):=by
 obtain ⟨A,B,h1,h2,hA,hB⟩:=with_split R p f
 have hm:=without_ord h p
 have hn:∀ r∈withoutM R p,r.path≠p:=fun r hr=>(mem_without.1 hr).2
 have hlt:∀ r∈A,bl r.path p=true:=fun r hr=>take_lt r (by rw [← hA];exact hr)
 have hgt:∀ r∈B,bl p r.path=true:=fun r hr=>drop_gt hm hn r (by rw [← hB];exact hr)
 rw [h1] at hm
 obtain ⟨g1,g2,g3⟩:=List.pairwise_append.1 hm
 rw [h2]
 refine List.pairwise_append.2 ⟨g1,List.pairwise_cons.2 ⟨fun r hr=>hgt r hr,g2⟩,fun a ha c hc=>?_⟩
 rcases List.mem_cons.1 hc with rfl | hc
 ·exact hlt a ha
 ·exact g3 a ha c hc
theorem ord_one {R:List RowM} (h:Ord R) {a c:RowM} (ha:a∈R) (hc:c∈R) (he:a.path=c.path):a=c:=by
 induction R with
 | nil=>cases ha
 | cons x R ih =>
  have h':=List.pairwise_cons.1 h
  rcases List.mem_cons.1 ha with ea | ha
  ·rcases List.mem_cons.1 hc with ec | hc
   ·rw [ea,ec]
   ·have:=h'.1 c hc;rw [← ea,he,bl_irr] at this;cases this
  ·rcases List.mem_cons.1 hc with ec | hc
   ·have:=h'.1 a ha;rw [← ec,he,bl_irr] at this;cases this
   ·exact ih h'.2 ha hc
end Go.Proofs.YtlkolcokjmlmjaaGreat.Tx
namespace Go.Proofs.YtlkolcokjmlmjaaGreat.Tx
theorem under_irr (p:List UInt8):underB p p=false:=by
 unfold underB
 simp
structure RowsOk (R:List RowM) (t:Int):Prop where
 ord:Ord R
 row:∀ r∈R,pathB r.path=true∧1≤r.f.mode∧r.f.mode≤3∧r.f.data.length≤20000∧r.f.time≤t
 tree:∀ a∈R,∀ c∈R,underB a.path c.path=false
theorem RowsOk.nil_ (t:Int):RowsOk [] t:=⟨List.Pairwise.nil,fun _ h=>(List.not_mem_nil h).elim,fun _ h=>(List.not_mem_nil h).elim⟩
theorem RowsOk.later {R:List RowM} {t t':Int} (h:RowsOk R t) (ht:t≤t'):RowsOk R t':=⟨h.ord,fun r hr=>by have:=h.row r hr;exact ⟨this.1,this.2.1,this.2.2.1,this.2.2.2.1,by omega⟩,h.tree⟩
theorem RowsOk.without {R:List RowM} {t:Int} (h:RowsOk R t) (p:List UInt8):RowsOk (withoutM R p) t :=
 ⟨without_ord h.ord p,fun r hr=>h.row r (mem_without.1 hr).1,fun a ha c hc=>h.tree a (mem_without.1 ha).1 c (mem_without.1 hc).1⟩
theorem may_row {R:List RowM} {p:List UInt8} (h:mayM R p=true) {r:RowM} (hr:r∈R):underB p r.path=false∧underB r.path p=false:=by
 unfold mayM at h
 have:=List.all_eq_true.1 h r hr
 simpa using this
theorem RowsOk.with_ {R:List RowM} {t:Int} (h:RowsOk R t) {p:List UInt8} {f:FileM} (hp:pathB p=true) (hm:1≤f.mode∧f.mode≤3) (hd:f.data.length≤20000) (ht:f.time≤t) (hw:(∃ r∈R,r.path=p)∨mayM R p=true):RowsOk (withM R p f) t:=by
 have hu:∀ r∈R,underB p r.path=false∧underB r.path p=false:=fun r hr=>by
  rcases hw with ⟨r0,h0,e⟩ | hw
  ·rw [← e];exact ⟨h.tree r0 h0 r hr,h.tree r hr r0 h0⟩
  ·exact may_row hw hr
 refine ⟨with_ord h.ord p f,fun r hr=>?_,fun a ha c hc=>?_⟩
 ·rcases mem_with.1 hr with rfl | ⟨hr,_⟩
  ·exact ⟨hp,hm.1,hm.2,hd,ht⟩
  ·exact h.row r hr
 ·rcases mem_with.1 ha with rfl | ⟨ha,_⟩
  ·rcases mem_with.1 hc with rfl | ⟨hc,_⟩
   ·exact under_irr p
   ·exact (hu c hc).1
  ·rcases mem_with.1 hc with rfl | ⟨hc,_⟩
   ·exact (hu a ha).2
   ·exact h.tree a ha c hc
theorem find_some {R:List RowM} {p:List UInt8} (h:(findM R p).isSome=true):∃ r∈R,r.path=p:=by
 obtain ⟨i,hi⟩:=Option.isSome_iff_exists.1 h
 obtain ⟨r,hr,e⟩:=find_at hi
 exact ⟨r,List.mem_of_getElem? hr,e⟩
theorem find_none_iff {R:List RowM} {p:List UInt8}:(findM R p).isNone=true↔∀ r∈R,r.path≠p:=by
 unfold findM
 rw [Option.isNone_iff_eq_none,List.findIdx?_eq_none_iff]
 constructor
 ·intro h r hr e
  have:=h r hr
  simp [e] at this
 ·intro h r hr
  simpa using h r hr
end Go.Proofs.YtlkolcokjmlmjaaGreat.Tx
namespace Go.Proofs.YtlkolcokjmlmjaaGreat.Tx
def OpOk (R:List RowM) (o:OpM) (t:Int):Prop:=o.kind=1→pathB o.to=true∧(1≤o.f.mode∧o.f.mode≤3)∧o.f.data.length≤20000∧o.f.time≤t∧((∃ r∈R,r.path=o.to)∨mayM R o.to=true)
structure Inv (st:FSM):Prop where
 now:st.now=againM st st.pending.length
 ok:∀ k,RowsOk (againM st k) st.time
 op:∀ k o,st.pending[k]?=some o→OpOk (againM st k) o st.time
theorem OpOk.later {R:List RowM} {o:OpM} {t t':Int} (h:OpOk R o t) (ht:t≤t'):OpOk R o t':=fun hk=>by
 obtain ⟨a,b,c,d,e⟩:=h hk
 exact ⟨a,b,c,by omega,e⟩
theorem again_change {st:FSM} (h:st.now=againM st st.pending.length) (o:OpM) (k:Nat):againM (changeM st o) k=if k≤st.pending.length then againM st k else applyM st.now (opOf st o):=by
 have e:changeM st o={ st with time:=st.time+1,now:=applyM st.now (opOf st o),pending:=st.pending++[opOf st o] }:=rfl
 rw [e]
 unfold againM
 show ((st.pending++[opOf st o]).take k).foldl applyM st.sure=_
 split
 ·rename_i hk
  rw [List.take_append_of_le_length hk]
 ·rename_i hk
  rw [List.take_of_length_le (by rw [List.length_append,List.length_singleton];omega),List.foldl_append]
  show applyM (st.pending.foldl applyM st.sure) (opOf st o)=_
  rw [h]
  unfold againM
  rw [List.take_length]
theorem Inv.change {st:FSM} (h:Inv st) (o:OpM) (hk:RowsOk (applyM st.now (opOf st o)) (st.time+1)) (ho:OpOk st.now (opOf st o) (st.time+1)):Inv (changeM st o):=by
 have hl:(changeM st o).pending.length=st.pending.length+1:=by
  show (st.pending++[opOf st o]).length=_
  rw [List.length_append,List.length_singleton]
 have ht:(changeM st o).time=st.time+1:=rfl
 refine ⟨?_,fun k=>?_,fun k q hq=>?_⟩
 ·rw [hl,again_change h.now,if_neg (by omega)];rfl
 ·rw [again_change h.now,ht]
  split
  ·exact (h.ok k).later (by omega)
  ·exact hk
 ·have hq':(st.pending++[opOf st o])[k]?=some q:=hq
  have hkl:=(List.getElem?_eq_some_iff.1 hq').1
  rw [List.length_append,List.length_singleton] at hkl
  rw [again_change h.now,if_pos (by omega),ht]
  by_cases hkk:k<st.pending.length
  ·rw [List.getElem?_append_left hkk] at hq'
   exact (h.op k q hq').later (by omega)
  ·have e:k=st.pending.length:=by omega
   subst e
   rw [List.getElem?_append_right (Nat.le_refl _),Nat.sub_self] at hq'
   injection hq' with hq'
   rw [← hq',← h.now]
   exact ho
theorem Inv.safe {st:FSM} (h:Inv st):Inv (safeM st):=by
 have hr:RowsOk st.now st.time:=by rw [h.now];exact h.ok _
 refine ⟨rfl,fun k=>?_,fun k o ho=>by cases ho⟩
 have e:againM (safeM st) k=st.now:=by unfold againM safeM;simp
 rw [e]
 exact hr
theorem Inv.rows {st:FSM} (h:Inv st):RowsOk st.now st.time:=by rw [h.now];exact h.ok _
theorem Inv.new_ (room:Int):Inv ⟨room,[],[],[],[],0,0,false,[]⟩:=by
 refine ⟨rfl,fun k=>?_,fun k o ho=>by cases ho⟩
 have e:againM ⟨room,[],[],[],[],0,0,false,[]⟩ k=[]:=by unfold againM;simp
 rw [e]
 exact RowsOk.nil_ _
end Go.Proofs.YtlkolcokjmlmjaaGreat.Tx
namespace Go.Proofs.YtlkolcokjmlmjaaGreat.Tx
open Go.RowKit Go.Proofs.YtlkolcokjmlmjaaGreat.Sh
def EvsTmp (F:Nat→Prop) (w:World) (v:Value) (l:List EvM):Prop:=TmpL evK F w v l
theorem RefX.evs {F:Nat→Prop} {w:World} {b:Nat} {st:FSM} {x:FsV} (h:RefX F w b st x):∃ (A:Option Addr) (c:Nat),x.plan=.slice A st.plan.length c∧st.plan.length≤c∧c≤maxLen∧EvsTmp F w (.slice A st.plan.length c) st.plan:=by
 obtain ⟨A,c,h1,h2,h3⟩:=h.plan.tmp.slice
 refine ⟨A,c,h1,h2,h3,?_⟩
 have:=h.plan.tmp
 rw [h1] at this
 exact this
theorem ev_cells {F:Nat→Prop} {w:World} {A:Option Addr} {n c:Nat} {l:List EvM} (h:EvsTmp F w (.slice A n c) l) (k:Nat) (e:EvM) (hk:l[k]?=some e) :
  ∃ (ad:Addr) (dA:Option Addr) (dc:Nat),A=some ad∧By F w (.slice dA e.data.length dc) e.data∧w.cell? (ad.add (k*7))=some (.int .i64 e.at_)∧w.cell? ⟨(ad.add (k*7)).block,(ad.add (k*7)).off+1,none⟩=some (.int .i64 e.kind) ∧
   w.cell? ⟨(ad.add (k*7)).block,(ad.add (k*7)).off+2,none⟩=some (.int .i64 e.mode)∧w.cell? ⟨(ad.add (k*7)).block,(ad.add (k*7)).off+3,none⟩=some (.int .i64 e.keep)∧w.cell? ⟨(ad.add (k*7)).block,(ad.add (k*7)).off+4,none⟩=some (.int .i64 e.torn) ∧
   w.cell? ⟨(ad.add (k*7)).block,(ad.add (k*7)).off+5,none⟩=some (.string (str e.path))∧w.cell? ⟨(ad.add (k*7)).block,(ad.add (k*7)).off+6,none⟩=some (.slice dA e.data.length dc):=by
 obtain ⟨ad,d,hA,hby,hc⟩:=TmpL.at_ h k e hk
 obtain ⟨dA,dc,rfl,_,_⟩:=By.slice (bs:=e.data) hby
 have e':∀ j u,0<j→(evK.cells e (.slice dA e.data.length dc))[j]?=some u→w.cell? ⟨(ad.add (k*7)).block,(ad.add (k*7)).off+j,none⟩=some u:=fun j u hj hu=>by
  rw [← add_field _ _ j hj];exact hc j u hu
 exact ⟨ad,dA,dc,hA,hby,hc 0 _ rfl,e' 1 _ (by decide) rfl,e' 2 _ (by decide) rfl,e' 3 _ (by decide) rfl,e' 4 _ (by decide) rfl,e' 5 _ (by decide) rfl,e' 6 _ (by decide) rfl⟩
theorem beg_zero (st:FSM):begM st 0=⟨false,false,{ st with calls:=st.calls+1 }⟩:=rfl
def BegAt (F M:Nat→Prop) (w:World) (b:Nat) (st:FSM) (k:Nat) (wr:World):Prop:=FsPost F M w b (begM st k).st wr
set_option maxRecDepth 100000 in
set_option maxHeartbeats 6400000 in
theorem rbegin_any (F M:Nat→Prop) (b:Nat) (st:FSM) (N:Nat) (w:World) (h:RefAt F w b st M) (hf:Fits st N) (hN:N+2*st.plan.length≤900000) (hc:0≤st.calls∧st.calls≤4000000000000) (hp:∀ e∈st.plan,e.path.length≤1000000) :
  Calls Tryz.prog 87 #[.pointer (some ⟨b,0,none⟩)] w fun e w'=>e=.returned (.tuple #[.bool (beginM st).full,.int .i64 (beginE st)])∧FsPost F M w b (beginM st).st w':=by
 have H:=Lib.hid h
 have HF:=Lib.hid hf
 have HN:=Lib.hid hN
 have HP:=Lib.hid hp
 obtain ⟨x,hX,hM⟩:=h
 have c5:w.cell? ⟨b,5,none⟩=some (.int .i64 st.calls):=hX.blk.cell 5
 have c5f:w.frozen? ⟨b,5,none⟩=false:=hX.blk.frozen 5
 obtain ⟨cl,hcl⟩:∃ cl,st.calls=cl:=⟨_,rfl⟩
 rw [hcl] at c5 hc
 have hc1:=hc.1
 have hc2:=hc.2
 have HCL:=Lib.hid hcl
 obtain ⟨pl,hpl⟩:∃ pl,st.plan.length=pl:=⟨_,rfl⟩
 have HPL:=Lib.hid hpl
 have hpl9:pl≤450000:=by omega
 have HB0:Hid (BegAt F M w b st 0 (w.setCell ⟨b,5,none⟩ (.int .i64 (cl+1)))):=by
  unfold Hid BegAt
  rw [beg_zero]
  exact cell_fin (st':={ st with calls:=st.calls+1 }) 5 (.int .i64 (cl+1)) hX hM (by rw [← hcl];rfl) rfl rfl rfl rfl rfl
 clear hX hM hf hN hp hcl hpl hc
 go_enter Tryz.func87,Tryz.ntmps87
 go_upto_region 2 with (fail)
 generalize w.setCell ⟨b,5,none⟩ (.int .i64 (cl+1))=w0 at *
 go_wp2_with fail
 go_loopw [4,5,6] (fun u v i wr=>∃ k:Nat,k≤pl∧u=.bool (begM st k).full∧v=.bool (begM st k).broken∧i=.int .i64 k∧BegAt F M w b st k wr) (fun _ _ i _=>pl - (intOf i).toNat)
 case atStart=>exact ⟨0,Nat.zero_le _,rfl,rfl,rfl,HB0.out⟩
 case round =>
  obtain ⟨k,hk,rfl,rfl,rfl,hbg⟩:=hrel
  have HBG:=Lib.hid hbg
  obtain ⟨M1,hat,hon,hsub⟩:=hbg
  obtain ⟨y,hY,hM1⟩:=hat
  have HKE:=Lib.hid (beg_keeps st k)
  have y7:wr.cell? ⟨b,7,none⟩=some (.bool (begM st k).st.down):=hY.blk.cell 7
  have y5:wr.cell? ⟨b,5,none⟩=some (.int .i64 (cl+1)):=by
   have:=hY.blk.cell 5
   rw [← HCL.out,← HKE.out.2.1];exact this
  obtain ⟨PA,pc,hPA,hpc1,hpc2,hptmp⟩:=hY.evs
  have hl2:(begM st k).st.plan.length=pl:=by rw [HKE.out.1];exact HPL.out
  have y4:wr.cell? ⟨b,4,none⟩=some (.slice PA pl pc):=by rw [← hl2,← hPA];exact hY.blk.cell 4
  rw [hl2] at hpc1 hptmp
  rw [HKE.out.1] at hptmp
  have hblt:=hY.blk.lt
  have HON:=Lib.hid hon
  have HSUB:=Lib.hid hsub
  have HY:=Lib.hid hY
  have HM1:=Lib.hid hM1
  have HPT:=Lib.hid hptmp
  unfold maxLen at hpc2
  clear hY hM1 hon hsub hptmp hPA hl2
  obtain ⟨fu,hfu⟩:∃ fu,(begM st k).full=fu:=⟨_,rfl⟩
  obtain ⟨br,hbr⟩:∃ br,(begM st k).broken=br:=⟨_,rfl⟩
  obtain ⟨dn,hdn⟩:∃ dn,(begM st k).st.down=dn:=⟨_,rfl⟩
  rw [hdn] at y7
  rw [hfu,hbr]
  have HFU:=Lib.hid hfu
  have HBR:=Lib.hid hbr
  have HDN:=Lib.hid hdn
  clear hfu hbr hdn
  have k0:(0:Int)≤(k:Int):=by omega
  by_cases hlt:k<pl
  ·have k1:(k:Int)<(pl:Int):=by omega
   obtain ⟨e,he⟩:∃ e,st.plan[k]?=some e:=⟨_,List.getElem?_eq_getElem (by rw [HPL.out];omega)⟩
   obtain ⟨ad,dA,dc,rfl,hby,x0,x1,x2,x3,x4,x5,x6⟩:=ev_cells HPT.out k e he
   have HNX:=Lib.hid (beg_next he)
   have HBY:=Lib.hid hby
   have HPE:=Lib.hid (HP.out e (List.mem_of_getElem? he))
   have HFE:=Lib.hid (HF.out.beg k)
   obtain ⟨wb,hwb⟩:∃ wb,wb=wr.alloc (.cells #[.int .i64 e.at_,.int .i64 e.kind,.int .i64 e.mode,.int .i64 e.keep,.int .i64 e.torn,.string (str e.path),.slice dA e.data.length dc] 110):=⟨_,rfl⟩
   have hBb:Below wr.heap.size wr wb:=by rw [hwb];exact (Below.refl _ _).alloc (Nat.le_refl _) _
   have hbox:Blk wb wr.heap.size 110 #[.int .i64 e.at_,.int .i64 e.kind,.int .i64 e.mode,.int .i64 e.keep,.int .i64 e.torn,.string (str e.path),.slice dA e.data.length dc]:=by rw [hwb];exact Blk.new _ _ _
   have z0:wb.cell? ⟨wr.heap.size,0,none⟩=some (.int .i64 e.at_):=hbox.cell 0
   have z1:wb.cell? ⟨wr.heap.size,1,none⟩=some (.int .i64 e.kind):=hbox.cell 1
   have z2:wb.cell? ⟨wr.heap.size,2,none⟩=some (.int .i64 e.mode):=hbox.cell 2
   have z3:wb.cell? ⟨wr.heap.size,3,none⟩=some (.int .i64 e.keep):=hbox.cell 3
   have z4:wb.cell? ⟨wr.heap.size,4,none⟩=some (.int .i64 e.torn):=hbox.cell 4
   have z5:wb.cell? ⟨wr.heap.size,5,none⟩=some (.string (str e.path)):=hbox.cell 5
   have z6:wb.cell? ⟨wr.heap.size,6,none⟩=some (.slice dA e.data.length dc):=hbox.cell 6
   have y5b:wb.cell? ⟨b,5,none⟩=some (.int .i64 (cl+1)):=by
    have:=(HY.out.blk.below hBb hblt).cell 5
    rw [← HCL.out,← HKE.out.2.1];exact this
   have HATB:Hid (∀ n,RefAt (grow F w wr M1) (wb.drewN n) b (begM st k).st M1):=fun n=>RefAt.below ⟨y,HY.out,HM1.out⟩ (below_drewN hBb n)
   have HSTEP:Hid (∀ n st2 w2,FsPost (grow F w wr M1) M1 (wb.drewN n) b st2 w2→FsPost F M w b st2 w2):=fun n _ _ h=>FsPost.trans HON.out HSUB.out (FsPost.of_below (below_drewN hBb n) h)
   have HBYB:Hid (∀ n,By (grow F w wr M1) (wb.drewN n) (.slice dA e.data.length dc) e.data):=fun n=>hby.only (Only.of_below (M:=fun _=>False) (below_drewN hBb n)) (fun _ _=>id)
   clear he hby hbox hBb
   go_upto_region 7 with (fail)
   rw [← hwb]
   obtain ⟨ea,hea⟩:∃ ea,e.at_=ea:=⟨_,rfl⟩
   obtain ⟨q,hq⟩:∃ q,e.kind=q:=⟨_,rfl⟩
   have HEA:=Lib.hid hea
   have HQ:=Lib.hid hq
   rw [hea,hq]
   rw [hea] at z0
   rw [hq] at z1
   clear hwb x0 x1 x2 x3 x4 x5 x6 y4 y5 y7 hea hq
   have HC9:Hid ((begM st k).st.calls=cl+1):=by unfold Hid;rw [HKE.out.2.1,HCL.out]
   have hnw:=HN.out
   rw [HPL.out] at hnw
   have hbig:N+2*k+2≤900000:=by omega
   have HBIG:=Lib.hid hbig
   have HSAME:Hid (∀ n,FsPost F M w b (begM st k).st (wb.drewN n)):=fun n=>HSTEP.out n _ _ (FsPost.refl (HATB.out n))
   clear hnw hbig
   by_cases hne:ea=cl+1
   ·subst hne
    by_cases h1:q=1
    ·subst h1
     have HE:Hid (begM st (k+1)={ begM st k with st:=crashM (begM st k).st e.keep e.torn }):=by
      unfold Hid
      rw [HNX.out]
      unfold evM
      rw [if_pos (by rw [HEA.out,HC9.out]),if_pos HQ.out]
     go_quiet (fail)
     go_wp2_with fail
     refine (rcrash_any _ M1 b (begM st k).st e.keep e.torn _ (HATB.out _) (by have:=HFE.out.both;have:=HBIG.out;omega) (fun o ho=>by have:=(HFE.out.prow o ho).2;omega)).mono ?_
     rintro e2 w2 ⟨rfl,hpost⟩
     have HP2:=Lib.hid (HSTEP.out _ _ _ hpost)
     clear hpost
     go_wp2_with fail
     go_roundw
     case rel=>exact ⟨k+1,by omega,by rw [HE.out];exact congrArg Value.bool HFU.out.symm,by rw [HE.out];exact congrArg Value.bool HBR.out.symm,by go_num,by unfold BegAt;rw [HE.out];exact HP2.out⟩
     case measure=>simp [intOf];omega
    ·have e1:(q==1)=false:=by rw [beq_eq_false_iff_ne];exact h1
     by_cases h2:q=2
     ·subst h2
      have HE:Hid (begM st (k+1)={ begM st k with full:=true }):=by
       unfold Hid
       rw [HNX.out]
       unfold evM
       rw [if_pos (by rw [HEA.out,HC9.out]),if_neg (by rw [HQ.out];exact h1),if_pos HQ.out]
      clear h1 e1
      go_quiet (fail)
      go_wp2_with fail
      go_roundw
      case rel=>exact ⟨k+1,by omega,by rw [HE.out],by rw [HE.out];exact congrArg Value.bool HBR.out.symm,by go_num,by unfold BegAt;rw [HE.out];exact HSAME.out _⟩
      case measure=>simp [intOf];omega
     ·have e2:(q==2)=false:=by rw [beq_eq_false_iff_ne];exact h2
      by_cases h3:q=3
      ·subst h3
       have HE:Hid (begM st (k+1)={ begM st k with broken:=true }):=by
        unfold Hid
        rw [HNX.out]
        unfold evM
        rw [if_pos (by rw [HEA.out,HC9.out]),if_neg (by rw [HQ.out];exact h1),if_neg (by rw [HQ.out];exact h2),if_pos HQ.out]
       clear h1 e1 h2 e2
       go_quiet (fail)
       go_wp2_with fail
       go_roundw
       case rel=>exact ⟨k+1,by omega,by rw [HE.out];exact congrArg Value.bool HFU.out.symm,by rw [HE.out],by go_num,by unfold BegAt;rw [HE.out];exact HSAME.out _⟩
       case measure=>simp [intOf];omega
      ·have e3:(q==3)=false:=by rw [beq_eq_false_iff_ne];exact h3
       by_cases h4:q=4
       ·subst h4
        have HE:Hid (begM st (k+1)={ begM st k with st:=userWM (begM st k).st e.path e.mode e.data }):=by
         unfold Hid
         rw [HNX.out]
         unfold evM
         rw [if_pos (by rw [HEA.out,HC9.out]),if_neg (by rw [HQ.out];exact h1),if_neg (by rw [HQ.out];exact h2),if_neg (by rw [HQ.out];exact h3),if_pos HQ.out]
        clear h1 e1 h2 e2 h3 e3
        go_quiet (fail)
        go_wp2_with fail
        refine (ruserw_any _ M1 b (begM st k).st e.path e.mode (.slice dA e.data.length dc) e.data _ (HATB.out _) _ (HBYB.out _) (fun j hj hm=>HY.out.apart j hj ((HM1.out j).1 hm)) HPE.out (fun r hr=>by have:=(HFE.out.nrow r hr).1;omega) (HFE.out.used (by have:=HBIG.out;omega)) ⟨HFE.out.time0,by have:=HFE.out.time;have:=HBIG.out;omega⟩
         (by have:=HFE.out.now;have:=HBIG.out;omega) (by have:=HFE.out.both;have:=HBIG.out;omega) (by have:=(HFE.out.put e.path e.mode e.data false false 1152921504606846976).now;have:=HBIG.out;omega) (by have:=HFE.out.user;have:=HBIG.out;omega)).mono ?_
        rintro e2 w2 ⟨rfl,hpost⟩
        have HP2:=Lib.hid (HSTEP.out _ _ _ hpost)
        clear hpost
        go_wp2_with fail
        go_roundw
        case rel=>exact ⟨k+1,by omega,by rw [HE.out];exact congrArg Value.bool HFU.out.symm,by rw [HE.out];exact congrArg Value.bool HBR.out.symm,by go_num,by unfold BegAt;rw [HE.out];exact HP2.out⟩
        case measure=>simp [intOf];omega
       ·have e4:(q==4)=false:=by rw [beq_eq_false_iff_ne];exact h4
        by_cases h5:q=5
        ·subst h5
         have HE:Hid (begM st (k+1)={ begM st k with st:=userRM (begM st k).st e.path }):=by
          unfold Hid
          rw [HNX.out]
          unfold evM
          rw [if_pos (by rw [HEA.out,HC9.out]),if_neg (by rw [HQ.out];exact h1),if_neg (by rw [HQ.out];exact h2),if_neg (by rw [HQ.out];exact h3),if_neg (by rw [HQ.out];exact h4),if_pos HQ.out]
         clear h1 e1 h2 e2 h3 e3 h4 e4
         go_quiet (fail)
         go_wp2_with fail
         refine (ruserr_any _ M1 b (begM st k).st e.path _ (HATB.out _) HPE.out ⟨HFE.out.time0,by have:=HFE.out.time;have:=HBIG.out;omega⟩
          (by have:=HFE.out.now;have:=HBIG.out;omega) (by have:=HFE.out.both;have:=HBIG.out;omega) (by have:=(HFE.out.drop e.path).now;have:=HBIG.out;omega) (by have:=HFE.out.user;have:=HBIG.out;omega)).mono ?_
         rintro e2 w2 ⟨rfl,hpost⟩
         have HP2:=Lib.hid (HSTEP.out _ _ _ hpost)
         clear hpost
         go_wp2_with fail
         go_roundw
         case rel=>exact ⟨k+1,by omega,by rw [HE.out];exact congrArg Value.bool HFU.out.symm,by rw [HE.out];exact congrArg Value.bool HBR.out.symm,by go_num,by unfold BegAt;rw [HE.out];exact HP2.out⟩
         case measure=>simp [intOf];omega
        ·have e5:(q==5)=false:=by rw [beq_eq_false_iff_ne];exact h5
         have HE:Hid (begM st (k+1)=begM st k):=by
          unfold Hid
          rw [HNX.out]
          unfold evM
          rw [if_pos (by rw [HEA.out,HC9.out]),if_neg (by rw [HQ.out];exact h1),if_neg (by rw [HQ.out];exact h2),if_neg (by rw [HQ.out];exact h3),if_neg (by rw [HQ.out];exact h4),if_neg (by rw [HQ.out];exact h5)]
         clear h1 h2 h3 h4 h5
         go_quiet (fail)
         go_wp2_with fail
         go_roundw
         case rel=>exact ⟨k+1,by omega,by rw [HE.out];exact congrArg Value.bool HFU.out.symm,by rw [HE.out];exact congrArg Value.bool HBR.out.symm,by go_num,by unfold BegAt;rw [HE.out];exact HSAME.out _⟩
         case measure=>simp [intOf];omega
   ·have hne':(ea==cl+1)=false:=by rw [beq_eq_false_iff_ne];exact hne
    have HE:Hid (begM st (k+1)=begM st k):=by
     unfold Hid
     rw [HNX.out]
     unfold evM
     rw [if_neg (by rw [HEA.out,HC9.out];exact hne)]
    clear hne
    go_quiet (fail)
    go_wp2_with fail
    go_roundw
    case rel=>exact ⟨k+1,by omega,by rw [HE.out];exact congrArg Value.bool HFU.out.symm,by rw [HE.out];exact congrArg Value.bool HBR.out.symm,by go_num,by unfold BegAt;rw [HE.out];exact HSAME.out _⟩
    case measure=>simp [intOf];omega
  ·obtain rfl:k=pl:=by omega
   have HBM:Hid (beginM st=begM st k):=by unfold Hid beginM;rw [HPL.out]
   clear hlt
   have HFIN:=Lib.hid (show FsPost F M w b (beginM st).st wr by rw [HBM.out];exact HBG.out)
   cases dn with
   | true =>
    have HEE:Hid (beginE st=12):=by unfold Hid beginE;rw [HBM.out,if_pos HDN.out]
    go_wp2_with fail
    go_ret2
    exact ⟨by rw [HEE.out,HBM.out,HFU.out];rfl,HFIN.out⟩
   | false =>
    cases br with
    | true =>
     have HEE:Hid (beginE st=11):=by unfold Hid beginE;rw [HBM.out,if_neg (by rw [HDN.out];decide),if_pos HBR.out]
     go_wp2_with fail
     go_ret2
     exact ⟨by rw [HEE.out,HBM.out,HFU.out];rfl,HFIN.out⟩
    | false =>
     have HEE:Hid (beginE st=0):=by unfold Hid beginE;rw [HBM.out,if_neg (by rw [HDN.out];decide),if_neg (by rw [HBR.out];decide)]
     go_wp2_with fail
     go_ret2
     exact ⟨by rw [HEE.out,HBM.out,HFU.out];rfl,HFIN.out⟩
end Go.Proofs.YtlkolcokjmlmjaaGreat.Tx
