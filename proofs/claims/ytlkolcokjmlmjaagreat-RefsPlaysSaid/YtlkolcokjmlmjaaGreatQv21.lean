/- Texts put together: VGm2, VGs12, VGs13, VGs14. -/
import Derived.Test.YtlkolcokjmlmjaaGreatQv20
namespace Go.Proofs.YtlkolcokjmlmjaaGreat.Tx
structure BgC where
 room:Int
 err:Int
 c:CSt
def evC (s:BgC) (e:EvM):BgC :=
 let c:CSt:={ s.c with plan:=s.c.plan.tail }
 if e.kind=1 then { s with c:=crC c e.keep e.torn }
 else if e.kind=2 then { s with room:=-1,c:=c }
 else if e.kind=3 then { s with err:=11,c:=c }
 else if e.kind=4 then { s with c:=uwC c e.path e.mode e.data }
 else if e.kind=5 then { s with c:=urC c e.path }
 else { s with c:=c }
def bg0 (c:CSt):BgC:=⟨c.room,0,{ c with calls:=c.calls+1 }⟩
def bgK (c:CSt) (k:Nat):BgC:=(c.plan.take k).foldl evC (bg0 c)
def bgN (c:CSt):Nat:=(c.plan.takeWhile fun e=>decide (e.at_=c.calls+1)).length
def bgC (c:CSt):BgC:=bgK c (bgN c)
def bgE (c:CSt):Int:=if (bgC c).c.down=true then 12 else (bgC c).err
theorem bgK_zero (c:CSt):bgK c 0=bg0 c:=rfl
theorem bgK_next {c:CSt} {k:Nat} {e:EvM} (h:c.plan[k]?=some e):bgK c (k+1)=evC (bgK c k) e:=by
 unfold bgK
 rw [List.take_add_one,h,List.foldl_append]
 rfl
theorem wr_plan (c:CSt) (p:List UInt8) (mode:Int) (data:List UInt8) (room:Int) (create:Bool):(wrC c p mode data room create).plan=c.plan∧(wrC c p mode data room create).calls=c.calls∧(wrC c p mode data room create).room=c.room:=by
 unfold wrC
 split <;> exact ⟨rfl,rfl,rfl⟩
theorem rm_plan (c:CSt) (p:List UInt8):(rmC c p).plan=c.plan∧(rmC c p).calls=c.calls∧(rmC c p).room=c.room:=by
 unfold rmC
 split <;> exact ⟨rfl,rfl,rfl⟩
theorem uw_plan (c:CSt) (p:List UInt8) (mode:Int) (data:List UInt8):(uwC c p mode data).plan=c.plan∧(uwC c p mode data).calls=c.calls∧(uwC c p mode data).room=c.room:=by
 unfold uwC
 split
 ·exact wr_plan c p mode data _ _
 ·exact ⟨rfl,rfl,rfl⟩
theorem ur_plan (c:CSt) (p:List UInt8):(urC c p).plan=c.plan∧(urC c p).calls=c.calls∧(urC c p).room=c.room:=by
 unfold urC
 split
 ·exact rm_plan c p
 ·exact ⟨rfl,rfl,rfl⟩
theorem cr_plan (c:CSt) (keep torn:Int):(crC c keep torn).plan=c.plan∧(crC c keep torn).calls=c.calls∧(crC c keep torn).room=c.room:=by
 unfold crC
 split <;> exact ⟨rfl,rfl,rfl⟩
theorem ev_plan (s:BgC) (e:EvM):(evC s e).c.plan=s.c.plan.tail∧(evC s e).c.calls=s.c.calls∧(evC s e).c.room=s.c.room:=by
 unfold evC
 split
 ·exact cr_plan _ _ _
 ·split
  ·exact ⟨rfl,rfl,rfl⟩
  ·split
   ·exact ⟨rfl,rfl,rfl⟩
   ·split
    ·exact uw_plan _ _ _ _
    ·split
     ·exact ur_plan _ _
     ·exact ⟨rfl,rfl,rfl⟩
theorem bgK_plan (c:CSt):∀ k,(bgK c k).c.plan=c.plan.drop k∧(bgK c k).c.calls=c.calls+1∧(bgK c k).c.room=c.room
 | 0=>⟨rfl,rfl,rfl⟩
 | k+1=>by
  obtain ⟨h1,h2,h3⟩:=bgK_plan c k
  cases h:c.plan[k]? with
  | none =>
   have hl:c.plan.length≤k:=by simpa using h
   have e:bgK c (k+1)=bgK c k:=by unfold bgK;rw [List.take_of_length_le (by omega),List.take_of_length_le hl]
   rw [e]
   refine ⟨?_,h2,h3⟩
   rw [h1,List.drop_of_length_le hl,List.drop_of_length_le (by omega)]
  | some q =>
   rw [bgK_next h]
   obtain ⟨g1,g2,g3⟩:=ev_plan (bgK c k) q
   exact ⟨by rw [g1,h1,List.tail_drop],g2.trans h2,g3.trans h3⟩
theorem CFits.plan {c:CSt} {N:Nat} (h:CFits c N) (l:List EvM):CFits { c with plan:=l } N:=⟨h.here,h.both,h.users,h.time0,h.time,h.hrow,h.drow,h.prow⟩
theorem CFits.calls {c:CSt} {N:Nat} (h:CFits c N) (n:Int):CFits { c with calls:=n } N:=⟨h.here,h.both,h.users,h.time0,h.time,h.hrow,h.drow,h.prow⟩
theorem CFits.cr {c:CSt} {N:Nat} (h:CFits c N) (keep torn:Int):CFits (crC c keep torn) N:=by
 unfold crC
 split
 ·exact h
 ·have hlen : (leftC c keep torn).length ≤ c.pending.length := by
   unfold leftC
   rw [List.length_append,List.length_take]
   cases hq:c.pending[keepC c keep]? with
   | none=>simp;omega
   | some q =>
    have:=(List.getElem?_eq_some_iff.1 hq).1
    show _+(if tearsB q torn=true then [partC q torn] else []).length≤_
    split
    ·simp;omega
    ·simp;omega
  have h1:CFits { c with pending:=leftC c keep torn } N:=by
   refine ⟨h.here,by have:=h.both;show c.durable.length+(leftC c keep torn).length≤_;omega,h.users,h.time0,h.time,h.hrow,h.drow,fun r hr=>?_⟩
   have hr':r∈leftC c keep torn:=hr
   unfold leftC at hr'
   rcases List.mem_append.1 hr' with hm | hm
   ·exact h.prow r (List.mem_of_mem_take hm)
   ·cases hq:c.pending[keepC c keep]? with
    | none=>rw [hq] at hm;cases hm
    | some q =>
     rw [hq] at hm
     have h':r∈(if tearsB q torn=true then [partC q torn] else []):=hm
     split at h'
     ·rw [List.mem_singleton.1 h']
      have:=h.prow q (List.mem_of_getElem? hq)
      exact ⟨this.1,this.2.1,by show (q.f.data.take torn.toNat).length≤_;rw [List.length_take];have:=this.2.2;omega⟩
     ·cases h'
  have h2:=h1.settle
  have h3:=h2.both
  refine ⟨?_,h2.both,h2.users,h2.time0,h2.time,h2.drow,h2.drow,h2.prow⟩
  show (settleC { c with pending:=leftC c keep torn }).durable.length≤N
  omega
theorem CFits.ev {s:BgC} {N:Nat} (h:CFits s.c N) (e:EvM):CFits (evC s e).c (N+2):=by
 have h1:=h.plan s.c.plan.tail
 unfold evC
 split
 ·exact (h1.cr _ _).more (by omega)
 ·split
  ·exact h1.more (by omega)
  ·split
   ·exact h1.more (by omega)
   ·split
    ·exact h1.uw _ _ _
    ·split
     ·exact h1.ur _
     ·exact h1.more (by omega)
theorem CFits.bg {c:CSt} {N:Nat} (h:CFits c N):∀ k,k≤c.plan.length→CFits (bgK c k).c (N+2*k)
 | 0,_=>h.calls _
 | k+1,hk=>by
  have hq:c.plan[k]?=some c.plan[k]:=List.getElem?_eq_getElem (by omega)
  rw [bgK_next hq]
  have:=(CFits.bg h k (by omega)).ev c.plan[k]
  exact this.more (by omega)
theorem bgN_le (c:CSt):bgN c≤c.plan.length:=by
 unfold bgN
 exact (List.takeWhile_prefix _).length_le
theorem take_while_at {α:Type} {p:α→Bool}:∀ {l:List α} {k:Nat} {e:α},k<(l.takeWhile p).length→l[k]?=some e→p e=true
 | [],k,e,h,_=>by simp at h
 | a::l,0,e,h,he=>by
  rw [List.takeWhile_cons] at h
  split at h
  ·rename_i ha
   have:a=e:=by simpa using he
   rw [← this];exact ha
  ·simp at h
 | a::l,k+1,e,h,he=>by
  rw [List.takeWhile_cons] at h
  split at h
  ·exact take_while_at (by simpa using h) (by simpa using he)
  ·simp at h
theorem take_while_end {α:Type} {p:α→Bool}:∀ {l:List α} {e:α},l[(l.takeWhile p).length]?=some e→p e=false
 | [],e,he=>by simp at he
 | a::l,e,he=>by
  rw [List.takeWhile_cons] at he
  split at he
  ·exact take_while_end (l:=l) (by simpa using he)
  ·rename_i ha
   have:a=e:=by simpa using he
   rw [← this]
   simpa using ha
end Go.Proofs.YtlkolcokjmlmjaaGreat.Tx
namespace Go.Proofs.YtlkolcokjmlmjaaGreat.Tx
open Go.RowKit Go.Maps Go.Proofs.YtlkolcokjmlmjaaGreat.Sh
def planL (w:World) (b:Nat):Nat:=match w.cell? ⟨b,4,none⟩ with
 | some (.slice _ n _)=>n
 | _=>0
section
variable {F M:Nat→Prop} {w w':World} {b:Nat} {c:CSt} {x:FcV}
theorem FcX.evs (h:FcX F w b c x):∃ A n,x.plan=.slice A c.plan.length n∧c.plan.length≤n∧n≤maxLen∧InL evK F w (.slice A c.plan.length n) c.plan:=by
 have h1:=h.plan
 obtain ⟨A,n,e,h2,h3⟩:=evs_slice h1.tmp
 refine ⟨A,n,e,h2,h3,?_⟩
 rw [e] at h1
 exact h1
theorem FcX.planL_ (h:FcX F w b c x):planL w b=c.plan.length:=by
 obtain ⟨A,n,e,_⟩:=h.evs
 unfold planL
 rw [h.blk.cell 4]
 show (match some x.plan with | some (.slice _ n _)=>n | _=>0)=_
 rw [e]
theorem FcX.plan_ (hX:FcX F w b c x) (hM:∀ k,M k↔fcM b x k) {v:Value} {l:List EvM} (h:InL evK F w v l):FcAt F (w.setCell ⟨b,4,none⟩ v) b { c with plan:=l } M:=by
 have ow:Only (fun k=>k=b) w (w.setCell ⟨b,4,none⟩ v):=Only.set_ (M:=fun k=>k=b) (g:=b) (i:=4) (Only.refl _ w) (.inl rfl) v
 refine ⟨{ x with plan:=v },⟨hX.blk.set_ 4 v,hX.here.only ow hX.Fb (fun k hk e=>hX.hb (e ▸ hk)),hX.dur.only ow hX.Fb (fun k hk e=>hX.db (e ▸ hk)),hX.pending.only ow hX.Fb (fun k hk e=>hX.pb (e ▸ hk)),h.only ow hX.Fb,
  hX.users.only ow hX.Fb (fun k hk e=>hX.ub (e ▸ hk)),hX.self,fun k hk=>Nat.lt_of_lt_of_le (hX.low k hk) ow.size,hX.apart⟩,hM⟩
end
theorem Rd.tail {F:Nat→Prop} {w:World} {sz n c:Nat} {A:Option Addr} {xs:List Value} (h:Rd F w sz (.slice A (n+1) c) (n+1) xs):Rd F w sz (.slice (if c=1 then A else A.map (fun a=>a.add (1*sz))) n (c - 1)) n (xs.drop sz):=by
 obtain ⟨A',c',e,h1,h2,h3,h4,h5⟩:=h
 injection e with ea eb ec
 subst ea ec
 refine ⟨_,_,rfl,by omega,by omega,by rw [List.length_drop,h3,Nat.add_mul];omega,fun hn=>?_,fun hn=>?_⟩
 ·by_cases h:c=1
  ·omega
  ·rw [if_neg h] at hn
   have:A=none:=by cases A with
    | none=>rfl
    | some a=>cases hn
   have:=h4 this
   omega
 ·obtain ⟨ad,rfl,hf,hl,hc⟩:=h5 (by omega)
  rw [if_neg (by omega)]
  refine ⟨ad.add (1*sz),rfl,by rw [block_of_add];exact hf,by rw [block_of_add];exact hl,fun j u hu=>?_⟩
  rw [add_of_add,Nat.one_mul]
  refine hc _ _ ?_
  rw [List.getElem?_drop] at hu
  exact hu
theorem InL.tail {K:Shape} {F:Nat→Prop} {w:World} {n c:Nat} {A:Option Addr} {a:K.α} {l:List K.α} (h:InL K F w (.slice A (n+1) c) (a::l)) (hl:l.length=n):InL K F w (.slice (if c=1 then A else A.map (fun a=>a.add (1*K.m))) n (c - 1)) l:=by
 obtain ⟨ds,h1,h2⟩:=h
 cases ds with
 | nil=>have:=h2.1;simp at this
 | cons d ds =>
  refine ⟨ds,?_,?_⟩
  ·have h3 : Rd F w K.m (.slice A (n + 1) c) (n + 1) (ShC K (a :: l) (d :: ds)) := by
    have:=h1
    rw [List.length_cons,hl] at this
    exact this
   have h4:=h3.tail
   have e:(ShC K (a::l) (d::ds)).drop K.m=ShC K l ds:=by
    show ((K.cells a d)++ShC K l ds).drop K.m=_
    rw [List.drop_left' (K.len a d)]
   rw [e] at h4
   rw [hl]
   exact h4
  ·refine ⟨by have:=h2.1;simpa using this,fun i d' bs hd hb=>h2.2 (i+1) d' bs (by simpa using hd) (by simpa using hb)⟩
theorem size_fe (w:World):(sizeOf (Tryz.prog.elem 33)).run Tryz.prog w=.ok 7 w:=by kernel_rfl
set_option maxRecDepth 100000 in
theorem evs_back (A:Option Addr) (l c:Nat) (hl:1≤l) (w:World):(Instr.slice 33 (.slice A l c) (some (.int .i64 1)) none none).run Tryz.prog w=.ok (.slice (if c=1 then A else A.map (fun a=>a.add (1*7))) (l - 1) (c - 1)) w:=by
 rw [run_slice_l w 33 A l c Tryz.underlying33 .i64 1 (by omega) (by omega),size_fe]
 simp only [Result.andThen_ok,sliced,Int.toNat_one]
end Go.Proofs.YtlkolcokjmlmjaaGreat.Tx
namespace Go.Proofs.YtlkolcokjmlmjaaGreat.Tx
open Go.RowKit Go.Maps Go.Proofs.YtlkolcokjmlmjaaGreat.Sh
theorem FcPost.planL_ {F M:Nat→Prop} {w w':World} {b:Nat} {c:CSt} (h:FcPost F M w b c w'):planL w' b=c.plan.length:=by
 obtain ⟨_,⟨x,h1,_⟩,_⟩:=h
 exact h1.planL_
theorem fe_cells {F : Nat → Prop} {w : World} {A : Option Addr} {n c : Nat} {e : EvM} {l : List EvM} (h : EvsF F w (.slice A n c) (e :: l)) :
  ∃ (ad:Addr) (dA:Option Addr) (dc:Nat),A=some ad∧By F w (.slice dA e.data.length dc) e.data∧w.cell? ad=some (.int .i64 e.at_)∧w.cell? ⟨ad.block,ad.off+1,none⟩=some (.int .i64 e.kind) ∧
   w.cell? ⟨ad.block,ad.off+2,none⟩=some (.int .i64 e.mode)∧w.cell? ⟨ad.block,ad.off+3,none⟩=some (.int .i64 e.keep)∧w.cell? ⟨ad.block,ad.off+4,none⟩=some (.int .i64 e.torn) ∧
   w.cell? ⟨ad.block,ad.off+5,none⟩=some (.string (str e.path))∧w.cell? ⟨ad.block,ad.off+6,none⟩=some (.slice dA e.data.length dc):=by
 obtain ⟨ad,dA,dc,hA,hby,x0,x1,x2,x3,x4,x5,x6⟩:=ev_cells h 0 e rfl
 have hz:ad.add (0*7)=ad:=by simp [Addr.add]
 rw [hz] at x0 x1 x2 x3 x4 x5 x6
 exact ⟨ad,dA,dc,hA,hby,x0,x1,x2,x3,x4,x5,x6⟩
set_option maxRecDepth 100000 in
set_option maxHeartbeats 9600000 in
theorem begin_any (F M : Nat → Prop) (b : Nat) (c : CSt) (N : Nat) (w : World) (h : FcAt F w b c M) (hf : CFits c N) (hN : N + 2 * c.plan.length ≤ 600000) (hc : 0 ≤ c.calls ∧ c.calls ≤ 4000000000000) (hp : ∀ e ∈ c.plan, e.path.length ≤ 1000000) :
  Calls Tryz.prog 91 #[.pointer (some ⟨b,0,none⟩)] w fun e w'=>e=.returned (.tuple #[.int .i64 (bgC c).room,.int .i64 (bgE c)])∧FcPost F M w b (bgC c).c w':=by
 have H:=Lib.hid h
 have HF:=Lib.hid hf
 have HP:=Lib.hid hp
 have HNN:=Lib.hid hN
 obtain ⟨x,hX,hM⟩:=h
 obtain ⟨cn,hcn⟩:∃ cn,c.calls=cn:=⟨_,rfl⟩
 obtain ⟨rm,hrm⟩:∃ rm,c.room=rm:=⟨_,rfl⟩
 rw [hcn] at hc
 obtain ⟨hc0,hc1⟩:=hc
 have c1:w.cell? ⟨b,1,none⟩=some (.int .i64 cn):=by rw [← hcn];exact hX.blk.cell 1
 have c1f:w.frozen? ⟨b,1,none⟩=false:=hX.blk.frozen 1
 have hwr:IntKind.i64.wrap (cn+1)=cn+1:=wrap_ok (by omega) (by omega)
 have HADD:=Lib.hid (add64 ⟨b,1,none⟩ cn 1 w c1 c1f)
 rw [hwr] at HADD
 have hpo:FcPost F M w b (bgK c 0).c (w.setCell ⟨b,1,none⟩ (.int .i64 (cn+1))):=by
  rw [← hcn]
  exact fc_cell 1 _ hX hM rfl rfl rfl rfl rfl rfl
 have c0:(w.setCell ⟨b,1,none⟩ (.int .i64 (cn+1))).cell? ⟨b,0,none⟩=some (.int .i64 rm):=by rw [← hrm];exact (hX.blk.set_ 1 _).cell 0
 have HPO:=Lib.hid hpo
 have HCN:=Lib.hid hcn
 have HRM:=Lib.hid hrm
 clear hX hM hcn hrm c1 c1f hpo hf hp hN hwr
 go_enter Tryz.func91,Tryz.ntmps91
 go_wp2_with fail
 refine HADD.out.mono ?_
 rintro e w1 ⟨rfl,hw1⟩
 rw [← hw1] at HPO c0
 clear hw1
 go_wp2_with fail
 go_loopw [5,6] (fun r er wr=>∃ k,k≤bgN c∧r=.int .i64 (bgK c k).room∧er=.int .i64 (bgK c k).err∧FcPost F M w b (bgK c k).c wr) (fun _ _ wr=>planL wr b)
 case atStart=>exact ⟨0,Nat.zero_le _,by rw [bgK_zero];show _=Value.int .i64 c.room;rw [HRM.out],rfl,HPO.out⟩
 case round =>
  clear c0 HPO HADD
  obtain ⟨k,hk,rfl,rfl,hpr⟩:=hrel
  have HPR:=Lib.hid hpr
  have HML:=Lib.hid hpr.planL_
  obtain ⟨s,hs⟩:∃ s,bgK c k=s:=⟨_,rfl⟩
  obtain ⟨hpl1,hpl2,hpl3⟩:=bgK_plan c k
  rw [hs] at hpl1 hpl2 hpl3 hpr HPR HML ⊢
  have HSK:=Lib.hid hs
  obtain ⟨M1,hat1,hon1,hsub1⟩:=hpr
  have HA1:=Lib.hid hat1
  have HO1:=Lib.hid hon1
  have HS1:=Lib.hid hsub1
  obtain ⟨x1,hX1,hM1⟩:=hat1
  obtain ⟨A,pc,hA,hpc1,hpc2,hin⟩:=hX1.evs
  have d4:wr.cell? ⟨b,4,none⟩=some (.slice A s.c.plan.length pc):=by rw [← hA];exact hX1.blk.cell 4
  have d4f:wr.frozen? ⟨b,4,none⟩=false:=hX1.blk.frozen 4
  have HX1:=Lib.hid hX1
  have HM1:=Lib.hid hM1
  have hkl:=bgN_le c
  clear hon1 hsub1 hX1 hM1 hA hs
  by_cases hgo:k<bgN c
  ·cases hpl:s.c.plan with
   | nil =>
    rw [hpl1] at hpl
    have:=congrArg List.length hpl
    rw [List.length_drop] at this
    simp at this
    omega
   | cons e rest =>
    have hek:c.plan[k]?=some e:=by
     have h1:(c.plan.drop k)[0]?=some e:=by rw [← hpl1,hpl];rfl
     rw [List.getElem?_drop] at h1
     exact h1
    have hat:e.at_=cn+1:=by
     have:=take_while_at hgo hek
     rw [HCN.out] at this
     exact of_decide_eq_true this
    have HNX:Hid (bgK c (k+1)=evC s e):=by unfold Hid;rw [bgK_next hek,HSK.out]
    rw [hpl] at d4 hin hpc1
    obtain ⟨ad,dA,dc,rfl,hby,y0,y1,y2,y3,y4,y5,y6⟩:=fe_cells hin.tmp
    obtain ⟨m,hm⟩:∃ m,rest.length=m:=⟨_,rfl⟩
    rw [List.length_cons,hm] at d4 hin hpc1
    have htl:=InL.tail hin hm
    have hback:=evs_back (some ad) (m+1) pc (by omega)
    obtain ⟨RA,hRA⟩:∃ RA,(if pc=1 then some ad else (some ad).map (fun a=>a.add (1*7)))=RA:=⟨_,rfl⟩
    have htl':InL evK (grow F w wr M1) wr (.slice RA m (pc - 1)) rest:=by rw [← hRA];exact htl
    rw [hRA,Nat.add_sub_cancel] at hback
    obtain ⟨rc,hrc⟩:∃ rc,pc - 1=rc:=⟨_,rfl⟩
    rw [hrc] at hback htl'
    have pn0:(0:Int)<((m+1:Nat):Int):=by omega
    rw [hat] at y0
    have HE:=Lib.hid hat
    have HBY:=Lib.hid hby
    have HPE:=Lib.hid (HP.out e (List.mem_of_getElem? hek))
    have HFK:Hid (CFits s.c (N+2*k)):=by have:=HF.out.bg k (by omega);rw [HSK.out] at this;exact this
    have HTL:=Lib.hid htl'
    have HPL:=Lib.hid hpl
    have HRM':=Lib.hid hm
    clear hpl1 hek hat hpl hin hpc1 hpc2 hby htl hRA htl' hrc
    obtain ⟨dl,hdl⟩:∃ dl,e.data.length=dl:=⟨_,rfl⟩
    rw [hdl] at y6 HBY
    obtain ⟨wb,hwb⟩:∃ wb,wb=wr.alloc (.cells #[.int .i64 (cn+1),.int .i64 e.kind,.int .i64 e.mode,.int .i64 e.keep,.int .i64 e.torn,.string (str e.path),.slice dA dl dc] 109):=⟨_,rfl⟩
    have hBb:Below wr.heap.size wr wb:=by rw [hwb];exact (Below.refl _ _).alloc (Nat.le_refl _) _
    have hbox:Blk wb wr.heap.size 109 #[.int .i64 (cn+1),.int .i64 e.kind,.int .i64 e.mode,.int .i64 e.keep,.int .i64 e.torn,.string (str e.path),.slice dA dl dc]:=by rw [hwb];exact Blk.new _ _ _
    have hne:wr.heap.size≠b:=by have:=HX1.out.blk.lt;omega
    have hXb:=HX1.out.below hBb
    have e4:wb.cell? ⟨b,4,none⟩=some (.slice (some ad) (m+1) pc):=by
     rw [hXb.blk.cell 4,← HX1.out.blk.cell 4];exact d4
    have e4f:wb.frozen? ⟨b,4,none⟩=false:=hXb.blk.frozen 4
    have HBOX:Hid (Blk (wb.setCell ⟨b,4,none⟩ (.slice RA m rc)) wr.heap.size 109 #[.int .i64 (cn+1),.int .i64 e.kind,.int .i64 e.mode,.int .i64 e.keep,.int .i64 e.torn,.string (str e.path),.slice dA dl dc]):=hbox.far hne _
    have HAT2:=Lib.hid (hXb.plan_ HM1.out (HTL.out.below hBb))
    have HON2:Hid (Only M1 wr (wb.setCell ⟨b,4,none⟩ (.slice RA m rc))):=(Only.set_ (M:=fun k=>k=b) (g:=b) (i:=4) (Only.of_below hBb) (.inl rfl) _).more (fun k _ e=>(HM1.out k).2 (.inl e))
    clear hBb hbox hne hXb
    go_upto_region 5 with (fail)
    rw [← hwb]
    clear hwb d4 d4f y0 y1 y2 y3 y4 y5 y6
    go_upto_region 6 with (fail)
    generalize wb.setCell ⟨b,4,none⟩ (.slice RA m rc)=w2 at *
    have hbx:=HBOX.out
    obtain ⟨r1,r2,r3,r4,r5,r6⟩:w2.cell? ⟨wr.heap.size,1,none⟩=some (.int .i64 e.kind)∧w2.cell? ⟨wr.heap.size,2,none⟩=some (.int .i64 e.mode)∧w2.cell? ⟨wr.heap.size,3,none⟩=some (.int .i64 e.keep)∧w2.cell? ⟨wr.heap.size,4,none⟩=some (.int .i64 e.torn)∧w2.cell? ⟨wr.heap.size,5,none⟩=some (.string (str e.path))∧w2.cell? ⟨wr.heap.size,6,none⟩=some (.slice dA dl dc):=⟨hbx.cell 1,hbx.cell 2,hbx.cell 3,hbx.cell 4,hbx.cell 5,hbx.cell 6⟩
    clear hbx e4 e4f hback
    obtain ⟨c2,hc2⟩:∃ c2,({ s.c with plan:=rest }:CSt)=c2:=⟨_,rfl⟩
    have HC2:Hid (({ s.c with plan:=s.c.plan.tail }:CSt)=c2):=by unfold Hid;rw [HPL.out];exact hc2
    have HA2:=HAT2.out
    rw [hc2] at HA2
    have HA2':=Lib.hid HA2
    have HFK2:Hid (CFits c2 (N+2*k)):=by unfold Hid;rw [← hc2];exact HFK.out.plan rest
    have HPLN:Hid (c2.plan.length=m):=by unfold Hid;rw [← hc2];exact HRM'.out
    have HB9:Hid (N+2*k≤600000):=by unfold Hid;have:=HNN.out;omega
    have HFIN:Hid (∀ (r er:Int) (c':CSt) (w3:World),evC s e=⟨r,er,c'⟩→FcPost (grow F w wr M1) M1 w2 b c' w3→(∃ k',k'≤bgN c∧Value.int .i64 r=Value.int .i64 (bgK c k').room∧Value.int .i64 er=Value.int .i64 (bgK c k').err∧FcPost F M w b (bgK c k').c w3)∧planL w3 b<planL wr b):=fun r er c' w3 hev hpo=>by
     refine ⟨⟨k+1,by omega,by rw [HNX.out,hev],by rw [HNX.out,hev],by rw [HNX.out,hev];exact FcPost.trans HO1.out HS1.out (FcPost.of_only HON2.out hpo)⟩,?_⟩
     rw [hpo.planL_,HML.out]
     have h1:=(ev_plan s e).1
     rw [hev] at h1
     rw [show c'.plan=s.c.plan.tail from h1,HPL.out]
     simp
    have HBY2:Hid (By (grow F w wr M1) w2 (.slice dA dl dc) e.data):=by
     have h1:=HBY.out
     rw [← hdl] at h1 ⊢
     exact h1.only HON2.out (fun k hk hm=>HX1.out.self k hk ((HM1.out k).1 hm))
    have HSELF:Hid (∀ k,grow F w wr M1 k→¬ M1 k):=fun k hk hm=>HX1.out.self k hk ((HM1.out k).1 hm)
    have HSTAY:Hid (FcPost (grow F w wr M1) M1 w2 b c2 w2):=FcPost.refl HA2
    have HDL:=Lib.hid hdl
    clear HA2 hc2 hdl pn0
    obtain ⟨kd,hkd⟩:∃ kd,e.kind=kd:=⟨_,rfl⟩
    rw [hkd] at r1
    have HKD:=Lib.hid hkd
    clear hkd
    by_cases k1:kd=1
    ·subst k1
     have HEV:Hid (evC s e=⟨s.room,s.err,crC c2 e.keep e.torn⟩):=by unfold Hid evC;rw [if_pos HKD.out,HC2.out]
     go_wp2_with fail
     refine (crash_any _ M1 b c2 e.keep e.torn w2 HA2'.out (HFK2.out.small (by have:=HB9.out;omega))).mono ?_
     rintro e' w3 ⟨rfl,hp3⟩
     have HP3:=Lib.hid (HFIN.out _ _ _ _ HEV.out hp3)
     clear hp3 r1 r2 r3 r4 r5 r6
     go_wp2_with fail
     go_roundw
     case rel=>exact HP3.out.1
     case measure=>exact HP3.out.2
    ·have q1:(kd==1)=false:=by rw [beq_eq_false_iff_ne];exact k1
     by_cases k2:kd=2
     ·subst k2
      have HEV:Hid (evC s e=⟨-1,s.err,c2⟩):=by unfold Hid evC;rw [if_neg (by rw [HKD.out];decide),if_pos HKD.out,HC2.out]
      have HP3:=Lib.hid (HFIN.out _ _ _ _ HEV.out HSTAY.out)
      clear k1
      go_wp2_with fail
      go_roundw
      case rel=>exact HP3.out.1
      case measure=>exact HP3.out.2
     ·have q2:(kd==2)=false:=by rw [beq_eq_false_iff_ne];exact k2
      by_cases k3:kd=3
      ·subst k3
       have HEV:Hid (evC s e=⟨s.room,11,c2⟩):=by unfold Hid evC;rw [if_neg (by rw [HKD.out];decide),if_neg (by rw [HKD.out];decide),if_pos HKD.out,HC2.out]
       have HP3:=Lib.hid (HFIN.out _ _ _ _ HEV.out HSTAY.out)
       clear k1 k2
       go_wp2_with fail
       go_roundw
       case rel=>exact HP3.out.1
       case measure=>exact HP3.out.2
      ·have q3:(kd==3)=false:=by rw [beq_eq_false_iff_ne];exact k3
       by_cases k4:kd=4
       ·subst k4
        have HEV:Hid (evC s e=⟨s.room,s.err,uwC c2 e.path e.mode e.data⟩):=by
         unfold Hid evC
         rw [if_neg (by rw [HKD.out];decide),if_neg (by rw [HKD.out];decide),if_neg (by rw [HKD.out];decide),if_pos HKD.out,HC2.out]
        clear k1 k2 k3
        go_wp2_with fail
        refine (userw_any _ M1 b c2 (N+2*k) e.path e.mode (.slice dA dl dc) e.data (grow F w wr M1) w2 HA2'.out HFK2.out (by have:=HB9.out;omega) HBY2.out HSELF.out HPE.out).mono ?_
        rintro e' w3 ⟨rfl,hp3⟩
        have HP3:=Lib.hid (HFIN.out _ _ _ _ HEV.out hp3)
        clear hp3 r1 r2 r3 r4 r5 r6
        go_wp2_with fail
        go_roundw
        case rel=>exact HP3.out.1
        case measure=>exact HP3.out.2
       ·have q4:(kd==4)=false:=by rw [beq_eq_false_iff_ne];exact k4
        by_cases k5:kd=5
        ·subst k5
         have HEV:Hid (evC s e=⟨s.room,s.err,urC c2 e.path⟩):=by
          unfold Hid evC
          rw [if_neg (by rw [HKD.out];decide),if_neg (by rw [HKD.out];decide),if_neg (by rw [HKD.out];decide),if_neg (by rw [HKD.out];decide),if_pos HKD.out,HC2.out]
         clear k1 k2 k3 k4
         go_wp2_with fail
         refine (userr_any _ M1 b c2 (N+2*k) e.path w2 HA2'.out HFK2.out (by have:=HB9.out;omega) HPE.out).mono ?_
         rintro e' w3 ⟨rfl,hp3⟩
         have HP3:=Lib.hid (HFIN.out _ _ _ _ HEV.out hp3)
         clear hp3 r1 r2 r3 r4 r5 r6
         go_wp2_with fail
         go_roundw
         case rel=>exact HP3.out.1
         case measure=>exact HP3.out.2
        ·have q5:(kd==5)=false:=by rw [beq_eq_false_iff_ne];exact k5
         have HEV:Hid (evC s e=⟨s.room,s.err,c2⟩):=by
          unfold Hid evC
          rw [if_neg (by rw [HKD.out];exact k1),if_neg (by rw [HKD.out];exact k2),if_neg (by rw [HKD.out];exact k3),if_neg (by rw [HKD.out];exact k4),if_neg (by rw [HKD.out];exact k5),HC2.out]
         have HP3:=Lib.hid (HFIN.out _ _ _ _ HEV.out HSTAY.out)
         clear k1 k2 k3 k4 k5
         go_wp2_with fail
         go_roundw
         case rel=>exact HP3.out.1
         case measure=>exact HP3.out.2
  ·have hkn:k=bgN c:=by omega
   have HBC:Hid (bgC c=s):=by unfold Hid bgC;rw [← hkn];exact HSK.out
   go_upto_region 3 with (fail)
   go_cut [32] (fun v wx=>v=.bool false∧wr=wx)
   case first =>
    cases hpl:s.c.plan with
    | nil =>
     rw [hpl] at d4
     clear hpl1 hin hpc1 hpc2
     go_wp2_with fail
     go_meet
     exact ⟨rfl,rfl⟩
    | cons e rest =>
     have hek:c.plan[k]?=some e:=by
      have h1:(c.plan.drop k)[0]?=some e:=by rw [← hpl1,hpl];rfl
      rw [List.getElem?_drop] at h1
      exact h1
     have hne:(e.at_==cn+1)=false:=by
      rw [hkn] at hek
      have:=take_while_end hek
      rw [HCN.out] at this
      rw [int_beq]
      exact this
     rw [hpl] at d4 hin hpc1
     obtain ⟨ad,dA,dc,rfl,_,y0,_⟩:=fe_cells hin.tmp
     obtain ⟨pn,hpn⟩:∃ pn,(e::rest).length=pn:=⟨_,rfl⟩
     rw [hpn] at d4
     have pn0:(0:Int)<(pn:Int):=by rw [List.length_cons] at hpn;omega
     clear hpl hpl1 hin hpc1 hpc2 hek hpn
     go_wp2_with fail
     go_meet
     exact ⟨rfl,rfl⟩
   case rest =>
    obtain ⟨rfl,rfl⟩:=hcut
    obtain ⟨dn,hdn⟩:∃ dn,s.c.down=dn:=⟨_,rfl⟩
    have d3:wr.cell? ⟨b,3,none⟩=some (.bool dn):=by rw [← hdn];exact HX1.out.blk.cell 3
    have HBE:Hid (bgE c=if dn=true then 12 else s.err):=by unfold Hid bgE;rw [HBC.out,hdn]
    clear hdn hin d4 d4f hpc1 hpc2 hpl1
    cases dn with
    | true =>
     go_wp2_with fail
     go_ret2
     rw [HBC.out]
     exact ⟨by rw [HBE.out];rfl,HPR.out⟩
    | false =>
     go_wp2_with fail
     go_ret2
     rw [HBC.out]
     exact ⟨by rw [HBE.out];rfl,HPR.out⟩
end Go.Proofs.YtlkolcokjmlmjaaGreat.Tx
namespace Go.Proofs.YtlkolcokjmlmjaaGreat.Tx
open Go.RowKit Go.Maps Go.Proofs.YtlkolcokjmlmjaaGreat.Sh
structure CReady (c:CSt) (N:Nat):Prop where
 fits:CFits c N
 big:N+2*c.plan.length≤600000
 calls:0≤c.calls∧c.calls≤4000000000000
 paths:∀ e∈c.plan,e.path.length≤1000000
theorem CReady.begun {c:CSt} {N:Nat} (h:CReady c N):CFits (bgC c).c (N+2*c.plan.length):=by
 have h1:=bgN_le c
 exact (h.fits.bg (bgN c) h1).more (by omega)
theorem CReady.small {c:CSt} {N:Nat} (h:CReady c N):CSmall (bgC c).c:=h.begun.small (by have:=h.big;omega)
def crtE (c:CSt) (p:List UInt8) (mode:Int) (data:List UInt8) (create:Bool):Int:=if bgE c=0 then wrE (bgC c).c p mode data (bgC c).room create else bgE c
def crtC (c:CSt) (p:List UInt8) (mode:Int) (data:List UInt8) (create:Bool):CSt:=if bgE c=0 then wrC (bgC c).c p mode data (bgC c).room create else (bgC c).c
def movE (c:CSt) (fr tt:List UInt8) (create:Bool):Int:=if bgE c=0 then mvE (bgC c).c fr tt create else bgE c
def movC (c:CSt) (fr tt:List UInt8) (create:Bool):CSt:=if bgE c=0 then mvC (bgC c).c fr tt create else (bgC c).c
def remE (c:CSt) (p:List UInt8):Int:=if bgE c=0 then rmE (bgC c).c p else bgE c
def remC (c:CSt) (p:List UInt8):CSt:=if bgE c=0 then rmC (bgC c).c p else (bgC c).c
def synC (c:CSt):CSt:=if bgE c=0 then settleC (bgC c).c else (bgC c).c
set_option maxRecDepth 100000 in
set_option maxHeartbeats 3200000 in
theorem create_any (F M : Nat → Prop) (b : Nat) (c : CSt) (N : Nat) (p : List UInt8) (mode : Int) (dv : Value) (data : List UInt8) (G : Nat → Prop) (w : World) (h : FcAt F w b c M) (hr : CReady c N) (hdv : By G w dv data) (hG : ∀ k, G k → ¬ M k) (hp : p.length ≤ 1000000) :
  Calls Tryz.prog 31 #[.pointer (some ⟨b,0,none⟩),.string (str p),.int .i64 mode,dv] w fun e w'=>e=.returned (.int .i64 (crtE c p mode data true))∧FcPost F M w b (crtC c p mode data true) w':=by
 have H:=Lib.hid h
 have HR:=Lib.hid hr
 have HDV:=Lib.hid hdv
 have HG:=Lib.hid hG
 obtain ⟨dA,dc,rfl,_,_⟩:=hdv.slice
 obtain ⟨dl,hdl⟩:∃ dl,data.length=dl:=⟨_,rfl⟩
 have HDL:=Lib.hid hdl
 rw [hdl]
 clear hdv hG hdl
 obtain ⟨be,hbe⟩:∃ be,bgE c=be:=⟨_,rfl⟩
 have HBE:=Lib.hid hbe
 obtain ⟨rm,hrm⟩:∃ rm,(bgC c).room=rm:=⟨_,rfl⟩
 have HRM:=Lib.hid hrm
 obtain ⟨s,hs⟩:∃ s,(bgC c).c=s:=⟨_,rfl⟩
 have HSS:=Lib.hid hs
 have HSM:=Lib.hid hr.small
 clear h hr hbe hrm hs
 go_enter Tryz.func31,Tryz.ntmps31
 go_wp2_with fail
 refine (begin_any F M b c N _ H.out HR.out.fits HR.out.big HR.out.calls HR.out.paths).mono ?_
 rintro e w1 ⟨rfl,hpost⟩
 rw [HBE.out,HRM.out]
 rw [HSS.out] at hpost HSM
 have HP1:=Lib.hid hpost
 obtain ⟨M1,hat,hon,hsub⟩:=hpost
 have HAT:=Lib.hid hat
 have HON:=Lib.hid hon
 have HSUB:=Lib.hid hsub
 clear hat hon hsub
 have HD1:Hid (SlV w1 (.slice dA dl dc) (data.map bv)):=by
  have h1:=HDV.out.only HON.out HG.out
  rw [← HDL.out]
  exact Rd.slv (by rw [List.length_map];exact h1)
 by_cases hb0:be=0
 ·subst hb0
  have HE:Hid (crtE c p mode data true=wrE s p mode data rm true∧crtC c p mode data true=wrC s p mode data rm true):=⟨by unfold crtE;rw [if_pos HBE.out,HSS.out,HRM.out],by unfold crtC;rw [if_pos HBE.out,HSS.out,HRM.out]⟩
  go_wp2_with fail
  refine (write_any _ M1 b s p mode (.slice dA dl dc) data rm true w1 HAT.out HSM.out HD1.out hp).mono ?_
  rintro e w2 ⟨rfl,hp2⟩
  have HP2:=Lib.hid (FcPost.trans HON.out HSUB.out hp2)
  clear hp2
  go_wp2_with fail
  go_ret
  exact ⟨by rw [HE.out.1];rfl,by rw [HE.out.2];exact HP2.out⟩
 ·have e1:(be==0)=false:=by rw [beq_eq_false_iff_ne];exact hb0
  have HE:Hid (crtE c p mode data true=be∧crtC c p mode data true=s):=⟨by unfold crtE;rw [HBE.out,if_neg hb0],by unfold crtC;rw [HBE.out,if_neg hb0];exact HSS.out⟩
  clear hb0
  go_wp2_with fail
  go_ret
  exact ⟨by rw [HE.out.1];rfl,by rw [HE.out.2];exact HP1.out⟩
set_option maxRecDepth 100000 in
set_option maxHeartbeats 3200000 in
theorem writef_any (F M : Nat → Prop) (b : Nat) (c : CSt) (N : Nat) (p : List UInt8) (mode : Int) (dv : Value) (data : List UInt8) (G : Nat → Prop) (w : World) (h : FcAt F w b c M) (hr : CReady c N) (hdv : By G w dv data) (hG : ∀ k, G k → ¬ M k) (hp : p.length ≤ 1000000) :
  Calls Tryz.prog 47 #[.pointer (some ⟨b,0,none⟩),.string (str p),.int .i64 mode,dv] w fun e w'=>e=.returned (.int .i64 (crtE c p mode data false))∧FcPost F M w b (crtC c p mode data false) w':=by
 have H:=Lib.hid h
 have HR:=Lib.hid hr
 have HDV:=Lib.hid hdv
 have HG:=Lib.hid hG
 obtain ⟨dA,dc,rfl,_,_⟩:=hdv.slice
 obtain ⟨dl,hdl⟩:∃ dl,data.length=dl:=⟨_,rfl⟩
 have HDL:=Lib.hid hdl
 rw [hdl]
 clear hdv hG hdl
 obtain ⟨be,hbe⟩:∃ be,bgE c=be:=⟨_,rfl⟩
 have HBE:=Lib.hid hbe
 obtain ⟨rm,hrm⟩:∃ rm,(bgC c).room=rm:=⟨_,rfl⟩
 have HRM:=Lib.hid hrm
 obtain ⟨s,hs⟩:∃ s,(bgC c).c=s:=⟨_,rfl⟩
 have HSS:=Lib.hid hs
 have HSM:=Lib.hid hr.small
 clear h hr hbe hrm hs
 go_enter Tryz.func47,Tryz.ntmps47
 go_wp2_with fail
 refine (begin_any F M b c N _ H.out HR.out.fits HR.out.big HR.out.calls HR.out.paths).mono ?_
 rintro e w1 ⟨rfl,hpost⟩
 rw [HBE.out,HRM.out]
 rw [HSS.out] at hpost HSM
 have HP1:=Lib.hid hpost
 obtain ⟨M1,hat,hon,hsub⟩:=hpost
 have HAT:=Lib.hid hat
 have HON:=Lib.hid hon
 have HSUB:=Lib.hid hsub
 clear hat hon hsub
 have HD1:Hid (SlV w1 (.slice dA dl dc) (data.map bv)):=by
  have h1:=HDV.out.only HON.out HG.out
  rw [← HDL.out]
  exact Rd.slv (by rw [List.length_map];exact h1)
 by_cases hb0:be=0
 ·subst hb0
  have HE:Hid (crtE c p mode data false=wrE s p mode data rm false∧crtC c p mode data false=wrC s p mode data rm false):=⟨by unfold crtE;rw [if_pos HBE.out,HSS.out,HRM.out],by unfold crtC;rw [if_pos HBE.out,HSS.out,HRM.out]⟩
  go_wp2_with fail
  refine (write_any _ M1 b s p mode (.slice dA dl dc) data rm false w1 HAT.out HSM.out HD1.out hp).mono ?_
  rintro e w2 ⟨rfl,hp2⟩
  have HP2:=Lib.hid (FcPost.trans HON.out HSUB.out hp2)
  clear hp2
  go_wp2_with fail
  go_ret
  exact ⟨by rw [HE.out.1];rfl,by rw [HE.out.2];exact HP2.out⟩
 ·have e1:(be==0)=false:=by rw [beq_eq_false_iff_ne];exact hb0
  have HE:Hid (crtE c p mode data false=be∧crtC c p mode data false=s):=⟨by unfold crtE;rw [HBE.out,if_neg hb0],by unfold crtC;rw [HBE.out,if_neg hb0];exact HSS.out⟩
  clear hb0
  go_wp2_with fail
  go_ret
  exact ⟨by rw [HE.out.1];rfl,by rw [HE.out.2];exact HP1.out⟩
set_option maxRecDepth 100000 in
set_option maxHeartbeats 3200000 in
theorem movef_any (F M : Nat → Prop) (b : Nat) (c : CSt) (N : Nat) (fr tt : List UInt8) (w : World) (h : FcAt F w b c M) (hr : CReady c N) (hf : fr.length ≤ 1000000) (ht : tt.length ≤ 1000000) :
  Calls Tryz.prog 49 #[.pointer (some ⟨b,0,none⟩),.string (str fr),.string (str tt)] w fun e w'=>e=.returned (.int .i64 (movE c fr tt false))∧FcPost F M w b (movC c fr tt false) w':=by
 have H:=Lib.hid h
 have HR:=Lib.hid hr
 obtain ⟨be,hbe⟩:∃ be,bgE c=be:=⟨_,rfl⟩
 have HBE:=Lib.hid hbe
 obtain ⟨rm,hrm⟩:∃ rm,(bgC c).room=rm:=⟨_,rfl⟩
 have HRM:=Lib.hid hrm
 obtain ⟨s,hs⟩:∃ s,(bgC c).c=s:=⟨_,rfl⟩
 have HSS:=Lib.hid hs
 have HSM:=Lib.hid hr.small
 clear h hr hbe hrm hs
 go_enter Tryz.func49,Tryz.ntmps49
 go_wp2_with fail
 refine (begin_any F M b c N _ H.out HR.out.fits HR.out.big HR.out.calls HR.out.paths).mono ?_
 rintro e w1 ⟨rfl,hpost⟩
 rw [HBE.out,HRM.out]
 rw [HSS.out] at hpost HSM
 have HP1:=Lib.hid hpost
 obtain ⟨M1,hat,hon,hsub⟩:=hpost
 have HAT:=Lib.hid hat
 have HON:=Lib.hid hon
 have HSUB:=Lib.hid hsub
 clear hat hon hsub
 by_cases hb0:be=0
 ·subst hb0
  have HE:Hid (movE c fr tt false=mvE s fr tt false∧movC c fr tt false=mvC s fr tt false):=⟨by unfold movE;rw [if_pos HBE.out,HSS.out],by unfold movC;rw [if_pos HBE.out,HSS.out]⟩
  go_wp2_with fail
  refine (move_any _ M1 b s fr tt false w1 HAT.out HSM.out hf ht).mono ?_
  rintro e w2 ⟨rfl,hp2⟩
  have HP2:=Lib.hid (FcPost.trans HON.out HSUB.out hp2)
  clear hp2
  go_wp2_with fail
  go_ret
  exact ⟨by rw [HE.out.1];rfl,by rw [HE.out.2];exact HP2.out⟩
 ·have e1:(be==0)=false:=by rw [beq_eq_false_iff_ne];exact hb0
  have HE:Hid (movE c fr tt false=be∧movC c fr tt false=s):=⟨by unfold movE;rw [HBE.out,if_neg hb0],by unfold movC;rw [HBE.out,if_neg hb0];exact HSS.out⟩
  clear hb0
  go_wp2_with fail
  go_ret
  exact ⟨by rw [HE.out.1];rfl,by rw [HE.out.2];exact HP1.out⟩
set_option maxRecDepth 100000 in
set_option maxHeartbeats 3200000 in
theorem movenew_any (F M : Nat → Prop) (b : Nat) (c : CSt) (N : Nat) (fr tt : List UInt8) (w : World) (h : FcAt F w b c M) (hr : CReady c N) (hf : fr.length ≤ 1000000) (ht : tt.length ≤ 1000000) :
  Calls Tryz.prog 50 #[.pointer (some ⟨b,0,none⟩),.string (str fr),.string (str tt)] w fun e w'=>e=.returned (.int .i64 (movE c fr tt true))∧FcPost F M w b (movC c fr tt true) w':=by
 have H:=Lib.hid h
 have HR:=Lib.hid hr
 obtain ⟨be,hbe⟩:∃ be,bgE c=be:=⟨_,rfl⟩
 have HBE:=Lib.hid hbe
 obtain ⟨rm,hrm⟩:∃ rm,(bgC c).room=rm:=⟨_,rfl⟩
 have HRM:=Lib.hid hrm
 obtain ⟨s,hs⟩:∃ s,(bgC c).c=s:=⟨_,rfl⟩
 have HSS:=Lib.hid hs
 have HSM:=Lib.hid hr.small
 clear h hr hbe hrm hs
 go_enter Tryz.func50,Tryz.ntmps50
 go_wp2_with fail
 refine (begin_any F M b c N _ H.out HR.out.fits HR.out.big HR.out.calls HR.out.paths).mono ?_
 rintro e w1 ⟨rfl,hpost⟩
 rw [HBE.out,HRM.out]
 rw [HSS.out] at hpost HSM
 have HP1:=Lib.hid hpost
 obtain ⟨M1,hat,hon,hsub⟩:=hpost
 have HAT:=Lib.hid hat
 have HON:=Lib.hid hon
 have HSUB:=Lib.hid hsub
 clear hat hon hsub
 by_cases hb0:be=0
 ·subst hb0
  have HE:Hid (movE c fr tt true=mvE s fr tt true∧movC c fr tt true=mvC s fr tt true):=⟨by unfold movE;rw [if_pos HBE.out,HSS.out],by unfold movC;rw [if_pos HBE.out,HSS.out]⟩
  go_wp2_with fail
  refine (move_any _ M1 b s fr tt true w1 HAT.out HSM.out hf ht).mono ?_
  rintro e w2 ⟨rfl,hp2⟩
  have HP2:=Lib.hid (FcPost.trans HON.out HSUB.out hp2)
  clear hp2
  go_wp2_with fail
  go_ret
  exact ⟨by rw [HE.out.1];rfl,by rw [HE.out.2];exact HP2.out⟩
 ·have e1:(be==0)=false:=by rw [beq_eq_false_iff_ne];exact hb0
  have HE:Hid (movE c fr tt true=be∧movC c fr tt true=s):=⟨by unfold movE;rw [HBE.out,if_neg hb0],by unfold movC;rw [HBE.out,if_neg hb0];exact HSS.out⟩
  clear hb0
  go_wp2_with fail
  go_ret
  exact ⟨by rw [HE.out.1];rfl,by rw [HE.out.2];exact HP1.out⟩
set_option maxRecDepth 100000 in
set_option maxHeartbeats 3200000 in
theorem removef_any (F M : Nat → Prop) (b : Nat) (c : CSt) (N : Nat) (p : List UInt8) (w : World) (h : FcAt F w b c M) (hr : CReady c N) (hp : p.length ≤ 1000000) :
  Calls Tryz.prog 39 #[.pointer (some ⟨b,0,none⟩),.string (str p)] w fun e w'=>e=.returned (.int .i64 (remE c p))∧FcPost F M w b (remC c p) w':=by
 have H:=Lib.hid h
 have HR:=Lib.hid hr
 obtain ⟨be,hbe⟩:∃ be,bgE c=be:=⟨_,rfl⟩
 have HBE:=Lib.hid hbe
 obtain ⟨rm,hrm⟩:∃ rm,(bgC c).room=rm:=⟨_,rfl⟩
 have HRM:=Lib.hid hrm
 obtain ⟨s,hs⟩:∃ s,(bgC c).c=s:=⟨_,rfl⟩
 have HSS:=Lib.hid hs
 have HSM:=Lib.hid hr.small
 clear h hr hbe hrm hs
 go_enter Tryz.func39,Tryz.ntmps39
 go_wp2_with fail
 refine (begin_any F M b c N _ H.out HR.out.fits HR.out.big HR.out.calls HR.out.paths).mono ?_
 rintro e w1 ⟨rfl,hpost⟩
 rw [HBE.out,HRM.out]
 rw [HSS.out] at hpost HSM
 have HP1:=Lib.hid hpost
 obtain ⟨M1,hat,hon,hsub⟩:=hpost
 have HAT:=Lib.hid hat
 have HON:=Lib.hid hon
 have HSUB:=Lib.hid hsub
 clear hat hon hsub
 by_cases hb0:be=0
 ·subst hb0
  have HE:Hid (remE c p=rmE s p∧remC c p=rmC s p):=⟨by unfold remE;rw [if_pos HBE.out,HSS.out],by unfold remC;rw [if_pos HBE.out,HSS.out]⟩
  go_wp2_with fail
  refine (remove_any _ M1 b s p w1 HAT.out HSM.out hp).mono ?_
  rintro e w2 ⟨rfl,hp2⟩
  have HP2:=Lib.hid (FcPost.trans HON.out HSUB.out hp2)
  clear hp2
  go_wp2_with fail
  go_ret
  exact ⟨by rw [HE.out.1];rfl,by rw [HE.out.2];exact HP2.out⟩
 ·have e1:(be==0)=false:=by rw [beq_eq_false_iff_ne];exact hb0
  have HE:Hid (remE c p=be∧remC c p=s):=⟨by unfold remE;rw [HBE.out,if_neg hb0],by unfold remC;rw [HBE.out,if_neg hb0];exact HSS.out⟩
  clear hb0
  go_wp2_with fail
  go_ret
  exact ⟨by rw [HE.out.1];rfl,by rw [HE.out.2];exact HP1.out⟩
set_option maxRecDepth 100000 in
set_option maxHeartbeats 3200000 in
theorem syncf_any (F M : Nat → Prop) (b : Nat) (c : CSt) (N : Nat) (w : World) (h : FcAt F w b c M) (hr : CReady c N) :
  Calls Tryz.prog 41 #[.pointer (some ⟨b,0,none⟩)] w fun e w'=>e=.returned (.int .i64 (bgE c))∧FcPost F M w b (synC c) w':=by
 have H:=Lib.hid h
 have HR:=Lib.hid hr
 obtain ⟨be,hbe⟩:∃ be,bgE c=be:=⟨_,rfl⟩
 have HBE:=Lib.hid hbe
 obtain ⟨rm,hrm⟩:∃ rm,(bgC c).room=rm:=⟨_,rfl⟩
 have HRM:=Lib.hid hrm
 obtain ⟨s,hs⟩:∃ s,(bgC c).c=s:=⟨_,rfl⟩
 have HSS:=Lib.hid hs
 have HSM:=Lib.hid hr.small
 clear h hr hbe hrm hs
 go_enter Tryz.func41,Tryz.ntmps41
 go_wp2_with fail
 refine (begin_any F M b c N _ H.out HR.out.fits HR.out.big HR.out.calls HR.out.paths).mono ?_
 rintro e w1 ⟨rfl,hpost⟩
 rw [HBE.out,HRM.out]
 rw [HSS.out] at hpost HSM
 have HP1:=Lib.hid hpost
 obtain ⟨M1,hat,hon,hsub⟩:=hpost
 have HAT:=Lib.hid hat
 have HON:=Lib.hid hon
 have HSUB:=Lib.hid hsub
 clear hat hon hsub
 by_cases hb0:be=0
 ·subst hb0
  have HE:Hid (bgE c=0∧synC c=settleC s):=⟨HBE.out,by unfold synC;rw [if_pos HBE.out,HSS.out]⟩
  go_wp2_with fail
  refine (settle_any _ M1 b s w1 HAT.out HSM.out).mono ?_
  rintro e w2 ⟨rfl,hp2⟩
  have HP2:=Lib.hid (FcPost.trans HON.out HSUB.out hp2)
  clear hp2
  go_wp2_with fail
  go_ret
  exact ⟨by rw [HE.out.1];rfl,by rw [HE.out.2];exact HP2.out⟩
 ·have e1:(be==0)=false:=by rw [beq_eq_false_iff_ne];exact hb0
  have HE:Hid (bgE c=be∧synC c=s):=⟨HBE.out,by unfold synC;rw [HBE.out,if_neg hb0];exact HSS.out⟩
  clear hb0
  go_wp2_with fail
  go_ret
  exact ⟨by rw [HE.out.1];rfl,by rw [HE.out.2];exact HP1.out⟩
end Go.Proofs.YtlkolcokjmlmjaaGreat.Tx
