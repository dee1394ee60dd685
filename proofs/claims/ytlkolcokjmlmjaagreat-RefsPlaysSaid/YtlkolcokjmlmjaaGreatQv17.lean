/- Texts put together: VGm1, VGs2, VFx19. -/
import Derived.Test.YtlkolcokjmlmjaaGreatQv16
import Derived.Test.YtlkolcokjmlmjaaGreatQv15
namespace Go.Proofs.YtlkolcokjmlmjaaGreat.Tx
def ShortC (c:ChM):Prop:=c.gone.length≤1000∧c.path.length≤1000∧c.f.data.length≤20000
def ShortR (r:RowM):Prop:=r.path.length≤1000∧r.f.data.length≤20000
structure CFits (c:CSt) (N:Nat):Prop where
 here:c.here.length≤N
 both:c.durable.length+c.pending.length≤N
 users:c.users.length≤N
 time0:0≤c.time
 time:c.time≤(N:Int)
 hrow:∀ r∈c.here,ShortR r
 drow:∀ r∈c.durable,ShortR r
 prow:∀ q∈c.pending,ShortC q
structure CSmall (c:CSt):Prop where
 here:c.here.length≤900000
 both:c.durable.length+c.pending.length≤900000
 users:c.users.length≤900000
 time:0≤c.time∧c.time≤4000000000
 hused:usedM c.here≤400000000000
 hrow:∀ r∈c.here,ShortR r
 drow:∀ r∈c.durable,ShortR r
 prow:∀ q∈c.pending,ShortC q
theorem used_short {R:List RowM} (h:∀ r∈R,ShortR r) (hl:R.length≤900000):usedM R≤400000000000:=by
 have h1:=used_bound (fun r hr=>(h r hr).2)
 have h2:R.length*20000≤900000*20000:=Nat.mul_le_mul_right _ hl
 omega
theorem CFits.small {c:CSt} {N:Nat} (h:CFits c N) (hN:N≤900000):CSmall c :=
 ⟨Nat.le_trans h.here hN,Nat.le_trans h.both hN,Nat.le_trans h.users hN,⟨h.time0,by have:=h.time;omega⟩,used_short h.hrow (Nat.le_trans h.here hN),h.hrow,h.drow,h.prow⟩
theorem CFits.more {c:CSt} {N N':Nat} (h:CFits c N) (hN:N≤N'):CFits c N':=⟨Nat.le_trans h.here hN,Nat.le_trans h.both hN,Nat.le_trans h.users hN,h.time0,by have:=h.time;omega,h.hrow,h.drow,h.prow⟩
theorem gone_mem {R:List RowM} {p:List UInt8} {r:RowM} (h:r∈goneM R p):r∈R:=by
 unfold goneM at h
 split at h
 ·exact h
 ·exact without_sub h
theorem with_len (R:List RowM) (p:List UInt8) (f:FileM):(withM R p f).length≤R.length+1:=by
 obtain ⟨A,B,h1,h2,_,_⟩:=with_split R p f
 have:=congrArg List.length h1
 have h3:(withoutM R p).length≤R.length:=List.length_filter_le _ _
 rw [h2]
 rw [List.length_append] at this
 rw [List.length_append,List.length_cons]
 omega
theorem applyC_len (R:List RowM) (c:ChM):(applyC R c).length≤R.length+1:=by
 unfold applyC
 have h1:=gone_len R c.gone
 split
 ·omega
 ·have:=with_len (goneM R c.gone) c.path c.f;omega
theorem applyC_row {R:List RowM} {c:ChM} (hR:∀ r∈R,ShortR r) (hc:ShortC c):∀ r∈applyC R c,ShortR r:=by
 intro r hr
 unfold applyC at hr
 split at hr
 ·exact hR r (gone_mem hr)
 ·rcases with_mem hr with h | h
  ·exact hR r (gone_mem h)
  ·rw [h];exact hc.2
def foldC (R:List RowM) (l:List ChM) (k:Nat):List RowM:=(l.take k).foldl applyC R
theorem foldC_next {R:List RowM} {l:List ChM} {k:Nat} {q:ChM} (h:l[k]?=some q):foldC R l (k+1)=applyC (foldC R l k) q:=by
 unfold foldC
 rw [List.take_add_one,h,List.foldl_append]
 rfl
theorem foldC_all (R:List RowM) (l:List ChM) {k:Nat} (h:l.length≤k):foldC R l k=l.foldl applyC R:=by unfold foldC;rw [List.take_of_length_le h]
theorem foldC_len (R:List RowM) (l:List ChM):∀ k,(foldC R l k).length≤R.length+min k l.length
 | 0=>by unfold foldC;simp
 | k+1=>by
  cases h:l[k]? with
  | none =>
   have hl:l.length≤k:=by simpa using h
   have h1:=foldC_len R l k
   rw [foldC_all R l (by omega:l.length≤k+1)]
   rw [foldC_all R l hl] at h1
   omega
  | some q =>
   have h1:=foldC_len R l k
   have h2:=applyC_len (foldC R l k) q
   have h3:=(List.getElem?_eq_some_iff.1 h).1
   rw [foldC_next h]
   omega
theorem foldC_row {R:List RowM} {l:List ChM} (hR:∀ r∈R,ShortR r) (hl:∀ q∈l,ShortC q):∀ k,∀ r∈foldC R l k,ShortR r
 | 0=>by unfold foldC;simpa using hR
 | k+1=>by
  cases h:l[k]? with
  | none =>
   have hle:l.length≤k:=by simpa using h
   have h1:=foldC_row hR hl k
   rw [foldC_all R l (by omega:l.length≤k+1)]
   rw [foldC_all R l hle] at h1
   exact h1
  | some q=>rw [foldC_next h];exact applyC_row (foldC_row hR hl k) (hl q (List.mem_of_getElem? h))
def settleC (c:CSt):CSt:={ c with durable:=c.pending.foldl applyC c.durable,pending:=[] }
theorem CFits.do_ {c:CSt} {N:Nat} (h:CFits c N) {q:ChM} (hq:ShortC q):CFits (doC c q) (N+1):=by
 have h1:=h.here
 have h2:=h.both
 have h3:=h.time0
 have h4:=h.time
 have h5:=applyC_len c.here q
 refine ⟨by show (applyC c.here q).length≤_;omega,by show c.durable.length+(c.pending++[q]).length≤_;rw [List.length_append,List.length_singleton];omega,Nat.le_trans h.users (by omega),by show 0≤c.time+1;omega,by show c.time+1≤_;omega,applyC_row h.hrow hq,h.drow,fun x hx=>?_⟩
 rcases List.mem_append.1 hx with hx | hx
 ·exact h.prow x hx
 ·rw [List.mem_singleton.1 hx];exact hq
theorem CFits.settle {c:CSt} {N:Nat} (h:CFits c N):CFits (settleC c) N:=by
 have h1:=foldC_len c.durable c.pending c.pending.length
 have h2:=foldC_row h.drow h.prow c.pending.length
 rw [foldC_all _ _ (Nat.le_refl _)] at h1 h2
 have h3:=h.both
 exact ⟨h.here,by show (c.pending.foldl applyC c.durable).length+0≤N;omega,h.users,h.time0,h.time,h.hrow,h2,fun q hq=>by cases hq⟩
end Go.Proofs.YtlkolcokjmlmjaaGreat.Tx
namespace Go.Proofs.YtlkolcokjmlmjaaGreat.Tx
open Go.RowKit Go.Maps Go.Proofs.YtlkolcokjmlmjaaGreat.Sh
abbrev ChsTmp (F:Nat→Prop) (w:World) (v:Value) (l:List ChM):Prop:=TmpL chK F w v l
theorem ch_cells {F : Nat → Prop} {w : World} {A : Option Addr} {n c : Nat} {l : List ChM} (h : ChsTmp F w (.slice A n c) l) (k : Nat) (q : ChM) (hk : l[k]? = some q) :
  ∃ (ad:Addr) (dA:Option Addr) (dc:Nat),A=some ad∧By F w (.slice dA q.f.data.length dc) q.f.data∧q.f.data.length≤dc∧dc≤maxLen∧w.cell? (ad.add (k*5))=some (.string (str q.gone))∧w.cell? ⟨(ad.add (k*5)).block,(ad.add (k*5)).off+1,none⟩=some (.string (str q.path)) ∧
   w.cell? ⟨(ad.add (k*5)).block,(ad.add (k*5)).off+2,none⟩=some (.int .i64 q.f.mode)∧w.cell? ⟨(ad.add (k*5)).block,(ad.add (k*5)).off+3,none⟩=some (.slice dA q.f.data.length dc)∧w.cell? ⟨(ad.add (k*5)).block,(ad.add (k*5)).off+4,none⟩=some (.int .i64 q.f.time):=by
 obtain ⟨ad,d,hA,hby,hc⟩:=TmpL.at_ h k q hk
 obtain ⟨dA,dc,rfl,g1,g2⟩:=By.slice (bs:=q.f.data) hby
 have e:∀ j u,0<j→(chK.cells q (.slice dA q.f.data.length dc))[j]?=some u→w.cell? ⟨(ad.add (k*5)).block,(ad.add (k*5)).off+j,none⟩=some u:=fun j u hj hu=>by
  rw [← add_field _ _ j hj];exact hc j u hu
 exact ⟨ad,dA,dc,hA,hby,g1,g2,hc 0 _ rfl,e 1 _ (by decide) rfl,e 2 _ (by decide) rfl,e 3 _ (by decide) rfl,e 4 _ (by decide) rfl⟩
theorem FcX.chs {F:Nat→Prop} {w:World} {b:Nat} {c:CSt} {x:FcV} (h:FcX F w b c x):∃ A n,x.pending=.slice A c.pending.length n∧c.pending.length≤n∧n≤maxLen∧ChsTmp F w (.slice A c.pending.length n) c.pending:=by
 have h1:=h.pending.tmp
 obtain ⟨A,n,e,h2,h3⟩:=h1.slice
 refine ⟨A,n,e,h2,h3,?_⟩
 rw [e] at h1
 exact h1
set_option maxRecDepth 100000 in
set_option maxHeartbeats 6400000 in
theorem settle_any (F M : Nat → Prop) (b : Nat) (c : CSt) (w : World) (h : FcAt F w b c M) (hs : CSmall c) :
  Calls Tryz.prog 99 #[.pointer (some ⟨b,0,none⟩)] w fun e w'=>e=.returned (.tuple #[])∧FcPost F M w b (settleC c) w':=by
 obtain ⟨x,hX,hM⟩:=h
 obtain ⟨PA,pc,hPA,hp1,hp2,hpt⟩:=hX.chs
 obtain ⟨n,hn⟩:∃ n,c.pending.length=n:=⟨_,rfl⟩
 have hblk:=hX.blk
 have c8:w.cell? ⟨b,8,none⟩=some (.slice PA n pc):=by rw [← hn,← hPA];exact hblk.cell 8
 rw [hn] at hp1 hpt
 have HX:=Lib.hid hX
 have HM:=Lib.hid hM
 have HN:=Lib.hid hn
 have HS:=Lib.hid hs
 have HPT:=Lib.hid hpt
 have HPA:=Lib.hid hPA
 have hnb:n≤900000:=by have:=hs.both;omega
 clear hX hM hPA hn hblk hs hpt
 go_enter Tryz.func99,Tryz.ntmps99
 go_wp2_with fail
 go_loopw [9] (fun i wr=>∃ k:Nat,k≤n∧i=.int .i64 k∧FcX F wr b { c with durable:=foldC c.durable c.pending k } x∧Only (treeM x.dur x.df x.du) w wr) (fun i _=>n - (intOf i).toNat)
 case atStart=>exact ⟨0,by omega,rfl,HX.out,Only.refl _ _⟩
 case round =>
  obtain ⟨k,hk,rfl,hXr,hor⟩:=hrel
  have HXR:=Lib.hid hXr
  have HOR:=Lib.hid hor
  clear hXr hor c8
  have k0:(0:Int)≤(k:Int):=by omega
  by_cases hlt:k<n
  ·have k1:(k:Int)<(n:Int):=by omega
   obtain ⟨q,hq⟩:∃ q,c.pending[k]?=some q:=⟨_,List.getElem?_eq_getElem (by rw [HN.out];omega)⟩
   have hpt2:ChsTmp F wr (.slice PA n pc) c.pending:=by
    obtain ⟨A,m,e,_,_,h⟩:=HXR.out.chs
    have e2:Value.slice PA c.pending.length pc=.slice A c.pending.length m:=HPA.out.symm.trans e
    have h':ChsTmp F wr (.slice A c.pending.length m) c.pending:=h
    rw [← e2,HN.out] at h'
    exact h'
   obtain ⟨ad,dA,dc,rfl,hby,_,_,x0,x1,x2,x3,x4⟩:=ch_cells hpt2 k q hq
   have HQ:=Lib.hid hq
   have HBY:=Lib.hid hby
   obtain ⟨wb,hwb⟩:∃ wb,wb=wr.alloc (.cells #[.string (str q.gone),.string (str q.path),.int .i64 q.f.mode,.slice dA q.f.data.length dc,.int .i64 q.f.time] 133):=⟨_,rfl⟩
   have hBb:Below wr.heap.size wr wb:=by rw [hwb];exact (Below.refl _ _).alloc (Nat.le_refl _) _
   have hbox:Blk wb wr.heap.size 133 #[.string (str q.gone),.string (str q.path),.int .i64 q.f.mode,.slice dA q.f.data.length dc,.int .i64 q.f.time]:=by rw [hwb];exact Blk.new _ _ _
   have z0:wb.cell? ⟨wr.heap.size,0,none⟩=some (.string (str q.gone)):=hbox.cell 0
   have z1:wb.cell? ⟨wr.heap.size,1,none⟩=some (.string (str q.path)):=hbox.cell 1
   have z2:wb.cell? ⟨wr.heap.size,2,none⟩=some (.int .i64 q.f.mode):=hbox.cell 2
   have z3:wb.cell? ⟨wr.heap.size,3,none⟩=some (.slice dA q.f.data.length dc):=hbox.cell 3
   have z4:wb.cell? ⟨wr.heap.size,4,none⟩=some (.int .i64 q.f.time):=hbox.cell 4
   have hXb:=HXR.out.below hBb
   have y7:wb.cell? ⟨b,7,none⟩=some (.pointer (some ⟨x.dur,0,none⟩)):=hXb.blk.cell 7
   have HXB:=Lib.hid hXb
   have HBB:=Lib.hid hBb
   clear hq hby hpt2 hBb hbox hXb
   go_upto_region 3 with (fail)
   rw [← hwb]
   clear hwb
   go_still_tail 5,(by kernel_rfl)
   change wpList _ _ _ _ _ wb.drew
   go_wp2_with fail
   have hT1:TreeX F wb.drew x.dur (foldC c.durable c.pending k) x.df x.du:=HXB.out.dur.only (M:=fun _=>False) ((Only.refl _ wb).drew) (fun _ _=>id) (fun _ _=>id)
   have hd1:By F wb.drew (.slice dA q.f.data.length dc) q.f.data:=HBY.out.only ((Only.of_below (M:=fun _=>False) HBB.out).drew) (fun _ _=>id)
   have hq1:=HS.out.prow q (List.mem_of_getElem? HQ.out)
   have hl1:(foldC c.durable c.pending k).length≤900000:=by have h1:=foldC_len c.durable c.pending k;have h2:=HS.out.both;omega
   have hr1:=foldC_row HS.out.drow HS.out.prow k
   have hu1:=used_short hr1 hl1
   have hap:=tapply_any F x.dur x.df x.du (foldC c.durable c.pending k) q (.slice dA q.f.data.length dc) wb.drew hT1 HXB.out.Fd hd1 (by have:=hq1.1;omega) (by have:=hq1.2.1;omega) (by omega) (by omega) (by have:=hq1.2.2;omega)
   unfold chV at hap
   refine hap.mono ?_
   rintro e w2 ⟨rfl,hT2,ho2⟩
   rw [← foldC_next HQ.out] at hT2
   have hX2:=HXB.out.dur_ hT2 (Only.of_drew ho2)
   have HX2:=Lib.hid hX2
   have HO2:=Lib.hid ((HOR.out.then_below HBB.out).trans (Only.of_drew ho2) (fun _ hk=>.inl hk))
   clear hT1 hd1 hq1 hl1 hr1 hu1 hap hT2 ho2 hX2 x0 x1 x2 x3 x4 z0 z1 z2 z3 z4 y7
   go_wp2_with fail
   go_roundw
   case rel=>exact ⟨k+1,by omega,by go_num,HX2.out,HO2.out⟩
   case measure=>simp [intOf];omega
  ·obtain rfl:k=n:=by omega
   have k1:¬ (k:Int)<(k:Int):=by omega
   have c8r:wr.cell? ⟨b,8,none⟩=some x.pending:=HXR.out.blk.cell 8
   have c8f:wr.frozen? ⟨b,8,none⟩=false:=HXR.out.blk.frozen 8
   rw [HPA.out] at c8r
   go_wp2_with fail
   go_end0
   have h1:=HXR.out.pend_ HM.out (Below.refl _ wr) (World.grownBy.refl wr _) (OwnL.nil_ chK _ F wr 0) (.inr (.inr rfl))
   have h2:=FcPost.of_only (HOR.out.more (M':=M) (fun k _ e=>(HM.out k).2 (.inr (.inr (.inl e))))) h1
   have h3:settleC c={ c with durable:=foldC c.durable c.pending k,pending:=[] }:=by unfold settleC;rw [foldC_all _ _ (Nat.le_of_eq HN.out)]
   rw [h3]
   exact ⟨rfl,h2⟩
end Go.Proofs.YtlkolcokjmlmjaaGreat.Tx
namespace Go.Proofs.YtlkolcokjmlmjaaGreat.Tx
open Go.RowKit Go.Proofs.YtlkolcokjmlmjaaGreat.Sh
def rowF (R:List RowM) (i:Nat):FileM:=match R[i]? with
 | none=>⟨0,[],0⟩
 | some r=>r.f
def peekF (R:List RowM) (p:List UInt8):FileM:=match findM R p with
 | none=>⟨0,[],0⟩
 | some i=>rowF R i
def peekB (R:List RowM) (p:List UInt8):Bool:=(findM R p).isSome
def FileV (w:World) (B:Nat) (f:FileM) (u:Value):Prop:=∃ v,u=.agg #[.int .i64 f.mode,v,.int .i64 f.time]∧OwnV 5 w B v (f.data.map bv)
def PeekPost (w:World) (f:FileM) (t:Bool) (e:Ending) (w':World):Prop:=∃ u,e=.returned (.tuple #[u,.bool t])∧FileV w' w.heap.size f u∧Below w.heap.size w w'
set_option maxRecDepth 100000 in
set_option maxHeartbeats 1600000 in
theorem rpeek_any {F M:Nat→Prop} {b:Nat} {st:FSM} {w:World} (p:List UInt8) (h:RefAt F w b st M) (hd:∀ r∈st.now,r.f.data.length≤1000000):Calls Tryz.prog 80 #[.pointer (some ⟨b,0,none⟩),.string (str p)] w (PeekPost w (peekF st.now p) (peekB st.now p)):=by
 obtain ⟨x,hX,_⟩:=h
 have HX:=Lib.hid hX
 have HD:=Lib.hid hd
 clear hX hd
 obtain ⟨wa,hwa⟩:∃ wa,wa=w.alloc (.cells #[.int .i64 0,.slice none 0 0,.int .i64 0] 78):=⟨_,rfl⟩
 have hBa:Below w.heap.size w wa:=by rw [hwa];exact (Below.refl _ _).alloc (Nat.le_refl _) _
 have hba:Blk wa w.heap.size 78 #[.int .i64 0,.slice none 0 0,.int .i64 0]:=by rw [hwa];exact Blk.new _ _ _
 have c1:wa.cell? ⟨b,1,none⟩=some x.now:=(HX.out.below hBa).blk.cell 1
 have HBA:=Lib.hid hBa
 have HBLK:=Lib.hid hba
 clear hBa hba
 go_enter Tryz.func80,Tryz.ntmps80
 go_upto_region 1 with (fail)
 rw [← hwa]
 clear hwa
 go_wp2_with fail
 refine (rfind_any F x.now st.now p _ (HX.out.below HBA.out).now).mono ?_
 rintro e w2 ⟨rfl,rfl⟩
 cases hf:findM st.now p with
 | none =>
  have HZ:=Lib.hid (findZ_none hf)
  have HF:Hid (peekF st.now p=⟨0,[],0⟩∧peekB st.now p=false):=by unfold Hid peekF peekB;rw [hf];exact ⟨rfl,rfl⟩
  rw [HZ.out]
  clear hf
  have a0:wa.cell? ⟨w.heap.size,0,none⟩=some (.int .i64 0):=HBLK.out.cell 0
  have a1:wa.cell? ⟨w.heap.size,1,none⟩=some (.slice none 0 0):=HBLK.out.cell 1
  have a2:wa.cell? ⟨w.heap.size,2,none⟩=some (.int .i64 0):=HBLK.out.cell 2
  have f0:wa.frozen? ⟨w.heap.size,0,none⟩=false:=HBLK.out.frozen 0
  have f1:wa.frozen? ⟨w.heap.size,1,none⟩=false:=HBLK.out.frozen 1
  have f2:wa.frozen? ⟨w.heap.size,2,none⟩=false:=HBLK.out.frozen 2
  have hbc:Blk (((wa.setCell ⟨w.heap.size,0,none⟩ (.int .i64 0)).setCell ⟨w.heap.size,1,none⟩ (.slice none 0 0)).setCell ⟨w.heap.size,2,none⟩ (.int .i64 0)) w.heap.size 78 #[.int .i64 0,.slice none 0 0,.int .i64 0]:=((HBLK.out.set_ 0 (.int .i64 0)).set_ 1 (.slice none 0 0)).set_ 2 (.int .i64 0)
  have hBc:Below w.heap.size w (((wa.setCell ⟨w.heap.size,0,none⟩ (.int .i64 0)).setCell ⟨w.heap.size,1,none⟩ (.slice none 0 0)).setCell ⟨w.heap.size,2,none⟩ (.int .i64 0)):=((HBA.out.setCell (p:=⟨w.heap.size,0,none⟩) (Nat.le_refl _) _).setCell (p:=⟨w.heap.size,1,none⟩) (Nat.le_refl _) _).setCell (p:=⟨w.heap.size,2,none⟩) (Nat.le_refl _) _
  have HBC:=Lib.hid hbc
  have HBB:=Lib.hid hBc
  clear hbc hBc
  go_wp2_with fail
  generalize ((wa.setCell ⟨w.heap.size,0,none⟩ (.int .i64 0)).setCell ⟨w.heap.size,1,none⟩ (.slice none 0 0)).setCell ⟨w.heap.size,2,none⟩ (.int .i64 0)=wc at *
  have q0:wc.cell? ⟨w.heap.size,0,none⟩=some (.int .i64 0):=HBC.out.cell 0
  have q1:wc.cell? ⟨w.heap.size,1,none⟩=some (.slice none 0 0):=HBC.out.cell 1
  have q2:wc.cell? ⟨w.heap.size,2,none⟩=some (.int .i64 0):=HBC.out.cell 2
  refine bodyPost_ret (v:=.tuple #[.agg #[.int .i64 0,.slice none 0 0,.int .i64 0],.bool false]) (by simp [results,Tryz.results80,go_sem,q0,q1,q2]) rfl ⟨_,by rw [HF.out.2],⟨_,by rw [HF.out.1],by rw [HF.out.1];exact OwnV.nil_ _ _⟩,HBB.out⟩
 | some i =>
  have HZ:=Lib.hid (findZ_some hf)
  obtain ⟨r,hr,_⟩:=find_at hf
  have HF:Hid (peekF st.now p=r.f∧peekB st.now p=true):=⟨by unfold peekF;rw [hf];show rowF st.now i=r.f;unfold rowF;rw [hr],by unfold peekB;rw [hf];rfl⟩
  rw [HZ.out]
  have hil:=(List.getElem?_eq_some_iff.1 hr).1
  have hrows:=(HX.out.below HBA.out).now
  obtain ⟨A,c,hA,hlc,hcm⟩:=hrows.slice
  obtain ⟨n,hN⟩:∃ n,st.now.length=n:=⟨_,rfl⟩
  rw [hN] at hA hlc hil
  rw [hA] at hrows c1 ⊢
  obtain ⟨ad,d,rfl,hby,hc0,hc1,hc2,hc3⟩:=hrows.at_ i r hr
  obtain ⟨dA,dc,rfl,hdc,hdm⟩:=By.slice (bs:=r.f.data) hby
  have hdl:=HD.out r (List.mem_of_getElem? hr)
  have HBY:=Lib.hid hby
  have i0:(0:Int)≤(i:Int):=by omega
  have i1:(i:Int)<(n:Int):=by omega
  unfold maxLen at hcm hdm
  clear hf hr hrows hA hN hby
  obtain ⟨wb,hwb⟩:∃ wb,wb=wa.alloc (.cells #[.int .i64 r.f.mode,.slice dA r.f.data.length dc,.int .i64 r.f.time] 78):=⟨_,rfl⟩
  have hBb:Below wa.heap.size wa wb:=by rw [hwb];exact (Below.refl _ _).alloc (Nat.le_refl _) _
  have hbox:Blk wb wa.heap.size 78 #[.int .i64 r.f.mode,.slice dA r.f.data.length dc,.int .i64 r.f.time]:=by rw [hwb];exact Blk.new _ _ _
  have hzw:w.heap.size<wa.heap.size:=HBLK.out.lt
  have hzb:wa.heap.size<wb.heap.size:=hbox.lt
  have b1:wb.cell? ⟨wa.heap.size,1,none⟩=some (.slice dA r.f.data.length dc):=hbox.cell 1
  have HBYB:=Lib.hid (HBY.out.only (Only.of_below (M:=fun _=>False) hBb) (fun _ _=>id)).slv
  have HBX:=Lib.hid hbox
  have HBr:=Lib.hid (HBLK.out.below hBb hzw)
  have HBb:=Lib.hid (HBA.out.trans (hBb.mono (Nat.le_of_lt hzw)))
  clear hBb hbox
  go_upto_region 5 with (fail)
  rw [← hwb]
  clear hwb hc0 hc1 hc2 hc3 c1
  go_wp2_with fail
  refine (rcopyb_any _ r.f.data _ HBYB.out (by omega)).mono ?_
  rintro e w4 ⟨v4,rfl,ho4,hb4⟩
  obtain ⟨A4,c4,rfl,_,_⟩:=ho4.length
  rw [List.length_map] at ho4 ⊢
  have hk4:=HBX.out.below hb4 hzb
  have z4f:w4.frozen? ⟨wa.heap.size,1,none⟩=false:=hk4.frozen 1
  have z4:w4.cell? ⟨wa.heap.size,1,none⟩=some (.slice dA r.f.data.length dc):=hk4.cell 1
  have HK4:=Lib.hid (hk4.set_ 1 (.slice A4 r.f.data.length c4))
  have HR4:=Lib.hid ((HBr.out.below hb4 (Nat.lt_trans hzw hzb)).far (p:=⟨wa.heap.size,1,none⟩) (Nat.ne_of_lt hzw) (.slice A4 r.f.data.length c4))
  have HO4:=Lib.hid (ho4.apart (p:=⟨wa.heap.size,1,none⟩) (fun e=>by have h:=(ho4.lt _ e).1;have h2:wb.heap.size≤wa.heap.size:=h;omega) (.slice A4 r.f.data.length c4))
  have HB4:=Lib.hid ((HBb.out.trans (hb4.mono (Nat.le_of_lt (Nat.lt_trans hzw hzb)))).setCell (p:=⟨wa.heap.size,1,none⟩) (Nat.le_of_lt hzw) (.slice A4 r.f.data.length c4))
  clear ho4 hb4 hk4 b1
  go_upto_region 6 with (fail)
  generalize w4.setCell ⟨wa.heap.size,1,none⟩ (.slice A4 r.f.data.length c4)=w5 at *
  have r0:w5.cell? ⟨wa.heap.size,0,none⟩=some (.int .i64 r.f.mode):=HK4.out.cell 0
  have r1:w5.cell? ⟨wa.heap.size,1,none⟩=some (.slice A4 r.f.data.length c4):=HK4.out.cell 1
  have r2:w5.cell? ⟨wa.heap.size,2,none⟩=some (.int .i64 r.f.time):=HK4.out.cell 2
  have a0:w5.cell? ⟨w.heap.size,0,none⟩=some (.int .i64 0):=HR4.out.cell 0
  have a1:w5.cell? ⟨w.heap.size,1,none⟩=some (.slice none 0 0):=HR4.out.cell 1
  have a2:w5.cell? ⟨w.heap.size,2,none⟩=some (.int .i64 0):=HR4.out.cell 2
  have f0:w5.frozen? ⟨w.heap.size,0,none⟩=false:=HR4.out.frozen 0
  have f1:w5.frozen? ⟨w.heap.size,1,none⟩=false:=HR4.out.frozen 1
  have f2:w5.frozen? ⟨w.heap.size,2,none⟩=false:=HR4.out.frozen 2
  have hbc:Blk (((w5.setCell ⟨w.heap.size,0,none⟩ (.int .i64 r.f.mode)).setCell ⟨w.heap.size,1,none⟩ (.slice A4 r.f.data.length c4)).setCell ⟨w.heap.size,2,none⟩ (.int .i64 r.f.time)) w.heap.size 78 #[.int .i64 r.f.mode,.slice A4 r.f.data.length c4,.int .i64 r.f.time]:=((HR4.out.set_ 0 (.int .i64 r.f.mode)).set_ 1 (.slice A4 r.f.data.length c4)).set_ 2 (.int .i64 r.f.time)
  have hBc:Below w.heap.size w (((w5.setCell ⟨w.heap.size,0,none⟩ (.int .i64 r.f.mode)).setCell ⟨w.heap.size,1,none⟩ (.slice A4 r.f.data.length c4)).setCell ⟨w.heap.size,2,none⟩ (.int .i64 r.f.time)):=((HB4.out.setCell (p:=⟨w.heap.size,0,none⟩) (Nat.le_refl _) _).setCell (p:=⟨w.heap.size,1,none⟩) (Nat.le_refl _) _).setCell (p:=⟨w.heap.size,2,none⟩) (Nat.le_refl _) _
  have hne:∀ k,(Value.slice A4 r.f.data.length c4).ownBlock≠some (⟨w.heap.size,k,none⟩:Addr).block:=fun k e=>by
   have h:=(HO4.out.lt _ e).1
   have h2:wb.heap.size≤w.heap.size:=h
   omega
  have hoc:OwnV 5 (((w5.setCell ⟨w.heap.size,0,none⟩ (.int .i64 r.f.mode)).setCell ⟨w.heap.size,1,none⟩ (.slice A4 r.f.data.length c4)).setCell ⟨w.heap.size,2,none⟩ (.int .i64 r.f.time)) wb.heap.size (.slice A4 r.f.data.length c4) (r.f.data.map bv):=((HO4.out.apart (hne 0) _).apart (hne 1) _).apart (hne 2) _
  have HBC:=Lib.hid hbc
  have HBB:=Lib.hid hBc
  have HOC:=Lib.hid hoc
  clear hbc hBc hoc hne
  go_wp2_with fail
  generalize ((w5.setCell ⟨w.heap.size,0,none⟩ (.int .i64 r.f.mode)).setCell ⟨w.heap.size,1,none⟩ (.slice A4 r.f.data.length c4)).setCell ⟨w.heap.size,2,none⟩ (.int .i64 r.f.time)=wc at *
  have q0:wc.cell? ⟨w.heap.size,0,none⟩=some (.int .i64 r.f.mode):=HBC.out.cell 0
  have q1:wc.cell? ⟨w.heap.size,1,none⟩=some (.slice A4 r.f.data.length c4):=HBC.out.cell 1
  have q2:wc.cell? ⟨w.heap.size,2,none⟩=some (.int .i64 r.f.time):=HBC.out.cell 2
  refine bodyPost_ret (v:=.tuple #[.agg #[.int .i64 r.f.mode,.slice A4 r.f.data.length c4,.int .i64 r.f.time],.bool true]) (by simp [results,Tryz.results80,go_sem,q0,q1,q2]) rfl ⟨_,by rw [HF.out.2],⟨_,by rw [HF.out.1],by rw [HF.out.1];exact HOC.out.base (by omega)⟩,HBB.out⟩
end Go.Proofs.YtlkolcokjmlmjaaGreat.Tx
