/- Texts put together: VFx3. -/
import Derived.Test.YtlkolcokjmlmjaaGreatQv05
namespace Go.Proofs.YtlkolcokjmlmjaaGreat.Tx
open Go.RowKit Go.Proofs.YtlkolcokjmlmjaaGreat.Sh
theorem RowsOwn.tmp {F:Nat→Prop} {w:World} {B:Nat} {v:Value} {R:List RowM} (h:RowsOwn F w B v R):RowsTmp F w v R:=by
 obtain ⟨⟨ds,h1,h2⟩,_⟩:=h
 exact ⟨ds,Rd.of_own h1 (fun _ _=>trivial),h2⟩
theorem RowsOwn.slice {F:Nat→Prop} {w:World} {B:Nat} {v:Value} {R:List RowM} (h:RowsOwn F w B v R):∃ A c,v=.slice A R.length c∧R.length≤c∧c≤maxLen:=by
 obtain ⟨ds,⟨A,c,h1,h2,h3,_⟩,_⟩:=h.tmp
 exact ⟨A,c,h1,h2,h3⟩
theorem RowsTmp.path {F:Nat→Prop} {w:World} {A:Option Addr} {n c:Nat} {R:List RowM} (h:RowsTmp F w (.slice A n c) R) (k:Nat) (r:RowM) (hk:R[k]?=some r) :
  ∃ ad:Addr,A=some ad∧w.cell? (ad.add (k*4))=some (.string (str r.path)):=by
 obtain ⟨ds,⟨A',c',hv,_,_,_,_,h5⟩,hd⟩:=h
 injection hv with e1 e2 e3
 subst e1
 have hkl:=(List.getElem?_eq_some_iff.1 hk).1
 obtain ⟨ad,hA,_,_,hc⟩:=h5 (by omega)
 obtain ⟨d,hdk,hby⟩:=hd.at_ (i:=k) (bs:=r.f.data) (by rw [List.getElem?_map,hk];rfl)
 exact ⟨ad,hA,hc (k*4+0) _ (rowsC_at hk hdk 0 _ rfl)⟩
theorem head_is {R:List RowM} {p:List UInt8} {k:Nat} (hk:k≤R.length) (hl:∀ (j:Nat) (x:RowM),j<k→R[j]?=some x→bl x.path p=true) (he:∀ x,R[k]?=some x→bl x.path p=false):headM R p=k:=by
 unfold headM
 induction R generalizing k with
 | nil=>simp at hk;subst hk;rfl
 | cons r R ih =>
  cases k with
  | zero =>
   rw [List.takeWhile_cons,if_neg (by rw [he r rfl];decide)]
   rfl
  | succ k =>
   rw [List.takeWhile_cons,if_pos (hl 0 r (by omega) rfl),List.length_cons]
   rw [ih (k:=k) (by simpa using hk) (fun j x hj hx=>hl (j+1) x (by omega) (by rw [List.getElem?_cons_succ];exact hx)) (fun x hx=>he x (by rw [List.getElem?_cons_succ];exact hx))]
theorem size_row (w:World):(sizeOf (Tryz.prog.elem 69)).run Tryz.prog w=.ok 4 w:=by kernel_rfl
set_option maxRecDepth 100000 in
theorem rows_front (A:Option Addr) (l c k:Nat) (hkc:k≤c) (w:World):(Instr.slice 69 (.slice A l c) none (some (.int .i64 (k:Int))) none).run Tryz.prog w=.ok (.slice A k c) w:=by
 rw [run_slice_h w 69 A l c Tryz.underlying69 .i64 k (by omega) (by omega),size_row]
 simp only [Result.andThen_ok,sliced,Int.toNat_natCast]
 by_cases h:c=0
 ·subst h;simp
 ·have e:A.map (fun a=>a.add 0)=A:=by cases A <;> simp [Addr.add]
  simp [h,e]
set_option maxRecDepth 100000 in
theorem rows_back (A:Option Addr) (l c k:Nat) (hkl:k≤l) (w:World):(Instr.slice 69 (.slice A l c) (some (.int .i64 (k:Int))) none none).run Tryz.prog w=.ok (.slice (if c=k then A else A.map (·.add (k*4))) (l - k) (c - k)) w:=by
 rw [run_slice_l w 69 A l c Tryz.underlying69 .i64 k (by omega) (by omega),size_row]
 rfl
theorem rowsC_take {R:List RowM} {ds:List Value} (k:Nat):rowsC (R.take k) (ds.take k)=(rowsC R ds).take (k*4):=by
 unfold rowsC
 induction k generalizing R ds with
 | zero=>simp
 | succ k ih =>
  cases R with
  | nil=>simp
  | cons r R =>
   cases ds with
   | nil=>simp
   | cons d ds =>
    simp only [List.take_succ_cons,List.zipWith_cons_cons,List.flatten_cons]
    rw [ih,show (k+1)*4=(rowC r d).length+k*4 from by simp [rowC];omega,List.take_length_add_append]
theorem rowsC_drop {R:List RowM} {ds:List Value} (k:Nat):rowsC (R.drop k) (ds.drop k)=(rowsC R ds).drop (k*4):=by
 unfold rowsC
 induction k generalizing R ds with
 | zero=>simp
 | succ k ih =>
  cases R with
  | nil=>simp
  | cons r R =>
   cases ds with
   | nil=>simp
   | cons d ds =>
    simp only [List.drop_succ_cons,List.zipWith_cons_cons,List.flatten_cons]
    rw [ih,show (k+1)*4=(rowC r d).length+k*4 from by simp [rowC];omega,List.drop_length_add_append]
theorem Datas.take {F:Nat→Prop} {w:World} {ds:List Value} {bss:List (List UInt8)} (h:Datas F w ds bss) (k:Nat):Datas F w (ds.take k) (bss.take k) :=
 ⟨by simp [h.1],fun i d b h1 h2=>h.2 i d b (by rw [List.getElem?_take] at h1;split at h1 <;> simp_all) (by rw [List.getElem?_take] at h2;split at h2 <;> simp_all)⟩
theorem Datas.drop {F:Nat→Prop} {w:World} {ds:List Value} {bss:List (List UInt8)} (h:Datas F w ds bss) (k:Nat):Datas F w (ds.drop k) (bss.drop k) :=
 ⟨by simp [h.1],fun i d b h1 h2=>h.2 (k+i) d b (by rw [← List.getElem?_drop];exact h1) (by rw [← List.getElem?_drop];exact h2)⟩
theorem RowsTmp.front {F:Nat→Prop} {w:World} {A:Option Addr} {n c:Nat} {R:List RowM} (h:RowsTmp F w (.slice A n c) R) (hn:R.length=n) (k:Nat) (hk:k≤n):RowsTmp F w (.slice A k c) (R.take k):=by
 obtain ⟨ds,⟨A',c',hv,h1,h2,h3,h4,h5⟩,hd⟩:=h
 injection hv with e1 e2 e3
 subst e1 e3
 refine ⟨ds.take k,⟨A,c,by rw [List.length_take,Nat.min_eq_left (by omega)],by rw [List.length_take];omega,h2,by rw [rowsC_length (by rw [List.length_take,List.length_take,hd.1,List.length_map])],fun e=>by rw [List.length_take];have:=h4 e;omega,fun hp=>?_⟩,?_⟩
 ·obtain ⟨ad,e,hf,hl,hc⟩:=h5 (by rw [List.length_take] at hp;omega)
  refine ⟨ad,e,hf,hl,fun j u hu=>hc j u ?_⟩
  rw [rowsC_take,List.getElem?_take] at hu
  split at hu
  ·exact hu
  ·cases hu
 ·rw [List.map_take];exact hd.take k
theorem RowsTmp.back {F:Nat→Prop} {w:World} {A:Option Addr} {n c:Nat} {R:List RowM} (h:RowsTmp F w (.slice A n c) R) (hn:R.length=n) (k:Nat) (hk:k≤n):RowsTmp F w (.slice (if c=k then A else A.map (·.add (k*4))) (n - k) (c - k)) (R.drop k):=by
 obtain ⟨ds,⟨A',c',hv,h1,h2,h3,h4,h5⟩,hd⟩:=h
 injection hv with e1 e2 e3
 subst e1 e3
 refine ⟨ds.drop k,⟨_,c - k,by rw [List.length_drop,hn],by rw [List.length_drop];omega,by unfold maxLen at *;omega,by rw [rowsC_length (by rw [List.length_drop,List.length_drop,hd.1,List.length_map])],fun e=>?_,fun hp=>?_⟩,?_⟩
 ·rw [List.length_drop]
  by_cases hck:c=k
  ·omega
  ·rw [if_neg hck] at e
   have:A=none:=by cases A with
    | none=>rfl
    | some a=>cases e
   have:=h4 this
   omega
 ·rw [List.length_drop] at hp
  obtain ⟨ad,e,hf,hl,hc⟩:=h5 (by omega)
  rw [if_neg (by omega),e]
  refine ⟨ad.add (k*4),rfl,by rw [block_of_add];exact hf,by rw [block_of_add];exact hl,fun j u hu=>?_⟩
  rw [add_of_add]
  exact hc _ u (by rw [rowsC_drop,List.getElem?_drop] at hu;exact hu)
 ·rw [List.map_drop];exact hd.drop k
theorem RowsTmp.below {F:Nat→Prop} {w w':World} {v:Value} {R:List RowM} (h:RowsTmp F w v R) (hb:Below w.heap.size w w'):RowsTmp F w' v R:=by
 obtain ⟨ds,h1,h2⟩:=h
 exact ⟨ds,h1.below hb,h2.only (Only.of_below (M:=fun _=>False) hb) (fun _ _=>id)⟩
theorem rows_empty (F:Nat→Prop) (w:World) (B:Nat) (hB:B≤w.heap.size) (hF:∀ k,F k→k<w.heap.size):RowsOwn F (w.alloc (.cells #[] 128)) B (.slice (some ⟨w.heap.size,0,none⟩) 0 0) [] :=
 ⟨⟨[],World.ownsRow_made w #[] 0 hB (by unfold maxLen;omega) rfl,Datas.nil_⟩,fun k hk hf=>by
  have hk':w.heap.size=k:=by simpa [Value.ownBlock] using hk
  have:=hF k hf
  omega⟩
theorem RowsTmp.grown {F:Nat→Prop} {w w':World} {g n c:Nat} {row:Option Nat} {R:List RowM} (h:RowsTmp F w (.slice (some ⟨g,0,none⟩) n c) R) (hg:w.grownBy w' row) (hne:some g≠row) (hF:∀ k,F k→some k≠row):RowsTmp F w' (.slice (some ⟨g,0,none⟩) n c) R:=by
 obtain ⟨ds,⟨A,c',hv,h1,h2,h3,h4,h5⟩,hd⟩:=h
 have ho:Only (fun k=>row=some k) w w':=⟨hg.os,hg.tape,hg.output,hg.size,fun k hk hn=>hg.block k hk (fun e=>hn e.symm)⟩
 refine ⟨ds,⟨A,c',hv,h1,h2,h3,h4,fun hn=>?_⟩,hd.only ho (fun k hk e=>hF k hk e.symm)⟩
 obtain ⟨ad,e,hf,hl,hc⟩:=h5 hn
 have hb:ad.block=g:=by
  injection hv with e1 _ _
  rw [e] at e1
  injection e1 with e1
  rw [← e1]
 exact ⟨ad,e,hf,Nat.lt_of_lt_of_le hl hg.size,fun j u hu=>(ho.cell (by rw [block_of_add];exact hl) (by rw [block_of_add,hb];exact fun e=>hne e.symm)).trans (hc j u hu)⟩
theorem RowsOwn.base {F:Nat→Prop} {w:World} {B B':Nat} {v:Value} {R:List RowM} (h:RowsOwn F w B v R) (hB:B'≤B):RowsOwn F w B' v R:=by
 obtain ⟨⟨ds,h1,h2⟩,h3⟩:=h
 obtain ⟨g1,g2⟩:=h1
 exact ⟨⟨ds,⟨g1,g2.imp id fun ⟨g,cap,cur,a1,a2,a3⟩=>⟨g,cap,cur,a1,by omega,a3⟩⟩,h2⟩,h3⟩
theorem blk_new {w:World} {t:TypeId} {cs:Array Value} {g:Nat} (hg:g=w.heap.size):Blk (w.alloc (.cells cs t)) g t cs:=by subst hg;exact Blk.new w t cs
theorem rows_empty_at {F:Nat→Prop} {w:World} {B g:Nat} (hg:Blk w g 128 #[]) (hB:B≤g) (hF:¬ F g):RowsOwn F w B (.slice (some ⟨g,0,none⟩) 0 0) [] :=
 ⟨⟨[],⟨rfl,.inr ⟨g,0,#[],rfl,hB,hg,Nat.le_refl _,by unfold maxLen;omega,rfl,rfl⟩⟩,Datas.nil_⟩,fun k hk hf=>by
  have e:g=k:=by simpa [Value.ownBlock] using hk
  exact hF (by rw [e];exact hf)⟩
theorem step_append_rows {ops:Array Oper} {o:Oper} {a:Act} {K:Act→World→Prop} {Q:Exit→Act→World→Prop} {E:Prop} (hgd:o.guard=none) (s x:Operand)
  (ho:o.op=.call { callee:=.builtin .append,args:=#[s,x],argTypes:=#[69,69] }) (F:Nat→Prop) (w:World) (B:Nat) (v:Value) (R:List RowM) (hs:a.eval s=v) (hown:RowsOwn F w B v R)
  (ex:Value) (S:List RowM) (hx:a.eval x=ex) (hr:RowsTmp F w ex S) (hsmall:R.length+S.length≤2000000) (hB:B≤w.heap.size) (hF:∀ k,F k→k<w.heap.size)
  (h:∀ v' w',RowsOwn F w' B v' (R++S)→w.grownBy w' v.ownBlock→Below B w w'→(v'.ownBlock=v.ownBlock∨v'.ownBlock=some w.heap.size)→K (a.put o.dst v') w'):if Region.wanted o (yielded ops a.tmps)=true then Oper.wp Tryz.prog o a w K Q else E:=by
 obtain ⟨i0,hi,hz0,hz1,hz2⟩:=info_parts info_row
 obtain ⟨⟨ds,hown',hds⟩,hne⟩:=hown
 obtain ⟨es,hrd,hes⟩:=hr
 obtain ⟨A,c,rfl,h1,h2,hrr⟩:=hrd.reads
 refine step_append_any w hgd s x 69 ho B 128 i0 _ 4 56 Tryz.underlying69 hi hz0 hz1 hz2 rfl (by decide) v R.length _ hs hown' w.heap.size A S.length c _ hx hrr (rowsC_one hes.one) (by unfold maxLen;omega) (by omega) hB ?_
 intro v' w' g1 g2 g3
 have hb:Below B w w':=(Below.refl _ _).grown g2 hB (fun k hk=>(hown'.lt k hk).1)
 have ho:Only (fun k=>v.ownBlock=some k) w w':=⟨g2.os,g2.tape,g2.output,g2.size,fun k hk hn=>g2.block k hk (fun e=>hn e.symm)⟩
 refine h v' w' ⟨⟨ds++es,?_,?_⟩,fun k hk=>?_⟩ g2 hb g3
 ·rw [List.length_append,rowsC_app (by rw [hds.1];simp)]
  exact g1
 ·rw [List.map_append]
  exact (hds.only ho (fun k hk he=>hne k he hk)).app (hes.only ho (fun k hk he=>hne k he hk))
 ·rcases g3 with g3 | g3
  ·exact hne k (by rw [← g3];exact hk)
  ·rw [g3] at hk
   injection hk with hk
   intro hf
   have:=hF k hf
   omega
structure W3 (F:Nat→Prop) (w1 W:World) (v:Value) (S:List RowM) (lit:Value) (T:List RowM):Prop where
 below:Below w1.heap.size w1 W
 own:RowsOwn F W w1.heap.size v S
 tmp:RowsTmp F W lit T
 apart:lit=.slice none 0 0∨∃ g,lit=.slice (some ⟨g,0,none⟩) 1 1∧g<W.heap.size∧some g≠v.ownBlock
theorem W3.drew {F:Nat→Prop} {w1 W:World} {v lit:Value} {S T:List RowM} (h:W3 F w1 W v S lit T):W3 F w1 W.drew v S lit T:=⟨h.below.drew,h.own,h.tmp,h.apart⟩
theorem W3.step {F:Nat→Prop} {w1 W:World} {v lit ex:Value} {S T U:List RowM} (h:W3 F w1 W v S lit T) (hF:∀ k,F k→k<w1.heap.size) {ops:Array Oper} {o:Oper} {a:Act} {K:Act→World→Prop} {Q:Exit→Act→World→Prop} {E:Prop} (hgd:o.guard=none) (s x:Operand)
  (ho:o.op=.call { callee:=.builtin .append,args:=#[s,x],argTypes:=#[69,69] }) (hr:RowsTmp F W ex U) (hs:a.eval s=v) (hx:a.eval x=ex) (hsmall:S.length+U.length≤2000000)
  (hk:∀ v' w',W3 F w1 w' v' (S++U) lit T→K (a.put o.dst v') w'):if Region.wanted o (yielded ops a.tmps)=true then Oper.wp Tryz.prog o a W K Q else E:=by
 have hz:=h.below.size
 refine step_append_rows hgd s x ho F W w1.heap.size v S hs h.own ex U hx hr hsmall hz (fun k hf=>by have:=hF k hf;omega) ?_
 intro v' w' h1 h2 h3 h4
 have hrow:∀ k,v.ownBlock=some k→w1.heap.size≤k:=by
  obtain ⟨⟨ds,g1,_⟩,_⟩:=h.own
  exact fun k hk=>(g1.lt k hk).1
 refine hk v' w' ⟨h.below.trans h3,h1,?_,?_⟩
 ·rcases h.apart with e | ⟨g,e,_,hne⟩
  ·subst e
   obtain ⟨ds,r1,r2⟩:=h.tmp
   have ho:Only (fun k=>v.ownBlock=some k) W w':=⟨h2.os,h2.tape,h2.output,h2.size,fun k hk hn=>h2.block k hk (fun e=>hn e.symm)⟩
   obtain ⟨A,c,hv,t1,t2,t3,t4,t5⟩:=r1
   injection hv with e1 e2 e3
   have hT:T.length=0:=e2.symm
   exact ⟨ds,⟨A,c,by rw [e1,hT,e3],t1,t2,t3,t4,fun hn=>by omega⟩,r2.only ho (fun k hk e=>by have:=hF k hk;have:=hrow k e;omega)⟩
  ·subst e
   exact h.tmp.grown h2 hne (fun k hf e=>by have:=hF k hf;have:=hrow k e.symm;omega)
 ·rcases h.apart with e | ⟨g,e,hg,hne⟩
  ·exact .inl e
  ·refine .inr ⟨g,e,Nat.lt_of_lt_of_le hg h2.size,?_⟩
   rcases h4 with h4 | h4
   ·rw [h4];exact hne
   ·rw [h4]
    intro e
    injection e with e
    omega
theorem W3.lit {F:Nat→Prop} {w1 W:World} {v:Value} {S:List RowM} (h:W3 F w1 W v S (.slice none 0 0) []) (r:RowM) (d:Value) (hd:By F W d r.f.data) :
  W3 F w1 (W.alloc (.cells #[.string (str r.path),.int .i64 r.f.mode,d,.int .i64 r.f.time] 128)) v S (.slice (some ⟨W.heap.size,0,none⟩) 1 1) [r]:=by
 refine ⟨h.below.alloc h.below.size _,h.own.alloc _,rows_new F W r d hd,.inr ⟨W.heap.size,rfl,by simp,?_⟩⟩
 intro e
 obtain ⟨⟨ds,g1,_⟩,_⟩:=h.own
 have:=(g1.lt _ e.symm).2
 omega
set_option maxRecDepth 100000 in
set_option maxHeartbeats 1600000 in
theorem rwith_any (F:Nat→Prop) (v:Value) (R:List RowM) (p:List UInt8) (f:FileM) (d:Value) (w:World) (h:RowsIn F w v R) (hn:R.length≤1000000) (hd:By F w d f.data) (hF:∀ k,F k→k<w.heap.size) :
  Calls Tryz.prog 140 #[v,.string (str p),.agg #[.int .i64 f.mode,d,.int .i64 f.time]] w fun e w'=>∃ v',e=.returned v'∧RowsOwn F w' w.heap.size v' (withM R p f)∧Below w.heap.size w w':=by
 have hone:=hd.one
 have HD:=Lib.hid hd
 have HF:=Lib.hid hF
 have H:=Lib.hid (h.only ((Only.refl (fun _=>False) w).alloc (.cells #[.int .i64 f.mode,d,.int .i64 f.time] 78)) (fun _ _=>id))
 have HFA:Hid (∀ k,F k→k<(w.alloc (.cells #[.int .i64 f.mode,d,.int .i64 f.time] 78)).heap.size):=fun k hk=>by have:=hF k hk;simp;omega
 have HRL:=Lib.hid hn
 clear h hd hF hn
 go_enter Tryz.func140,Tryz.ntmps140
 go_wp2_with fail
 refine (rwithout_any F v R p _ H.out HRL.out HFA.out).mono ?_
 rintro e w1 ⟨v1,rfl,ho,hb⟩
 have hbx:Blk w1 w.heap.size 78 #[.int .i64 f.mode,d,.int .i64 f.time]:=(Blk.new w _ _).below hb (by simp)
 have hb0:Below w.heap.size w w1:=((Below.refl _ _).alloc (Nat.le_refl _) _).trans (hb.mono (by simp))
 have hml:=without_le R p
 obtain ⟨M,hM⟩:∃ M,withoutM R p=M:=⟨_,rfl⟩
 rw [hM] at ho hml
 obtain ⟨A,c,rfl,hlc,hcm⟩:=ho.slice
 unfold maxLen at hcm
 have HO:=Lib.hid (show RowsOwn F w1 w.heap.size (.slice A M.length c) M from by
  obtain ⟨⟨ds,h1,h2⟩,h3⟩:=ho
  refine ⟨⟨ds,?_,h2⟩,h3⟩
  obtain ⟨g1,g2⟩:=h1
  exact ⟨g1,g2.imp id fun ⟨g,cap,cur,a1,a2,a3⟩=>⟨g,cap,cur,a1,by simp at a2;omega,a3⟩⟩)
 obtain ⟨n,hN⟩:∃ n,M.length=n:=⟨_,rfl⟩
 rw [hN] at hlc hml HO ⊢
 have hn6:n≤1000000:=by have:=HRL.out;omega
 have HN:=Lib.hid hN
 have HM:=Lib.hid hM
 have HB:=Lib.hid hb0
 have HBX:=Lib.hid hbx
 have hwz:=hb0.size
 clear ho hb hb0 hbx hM hN H HFA hml
 go_upto_block 0 with (fail)
 go_cut [7] (fun i wx=>i=.int .i64 (headM M p:Int)∧headM M p≤n∧w1=wx)
 case first =>
  go_wp2_with fail
  go_loop [7] (fun i=>∃ k:Nat,k≤n∧i=.int .i64 k∧∀ (j:Nat) (x:RowM),j<k→M[j]?=some x→bl x.path p=true) (fun i=>n - (intOf i).toNat)
  case atStart=>exact ⟨0,Nat.zero_le _,rfl,fun j x hj=>by omega⟩
  case round =>
   obtain ⟨k,hk,rfl,hno⟩:=hrel
   have HNO:=Lib.hid hno
   have k0:(0:Int)≤(k:Int):=by omega
   clear hno
   by_cases hlt:k<n
   ·have k1:(k:Int)<(n:Int):=by omega
    obtain ⟨r,hr⟩:∃ r,M[k]?=some r:=⟨_,List.getElem?_eq_getElem (by rw [HN.out];exact hlt)⟩
    obtain ⟨ad,rfl,hc0⟩:=HO.out.tmp.path k r hr
    have HR:=Lib.hid hr
    obtain ⟨t,ht⟩:∃ t,bl r.path p=t:=⟨_,rfl⟩
    have q:Op.bytesLess (str r.path).toList (str p).toList=t:=by rw [str_toList,str_toList];exact ht
    have HT:=Lib.hid ht
    clear hr ht
    cases t with
    | true =>
     go_wp2_with fail
     go_round
     case rel =>
      refine ⟨k+1,by omega,by go_num,fun j x hj hx=>?_⟩
      by_cases e:j=k
      ·subst e;rw [HR.out] at hx;injection hx with hx;rw [← hx];exact HT.out
      ·exact HNO.out j x (by omega) hx
     case measure=>simp [intOf];omega
    | false =>
     have hh:headM M p=k:=head_is (by rw [HN.out];exact hk) HNO.out (fun x hx=>by rw [HR.out] at hx;injection hx with hx;rw [← hx];exact HT.out)
     have HH:=Lib.hid hh
     clear hh
     go_wp2_with fail
     go_meet
     exact ⟨by rw [HH.out],by rw [HH.out];exact hk,rfl⟩
   ·have k1:(n:Int)≤(k:Int):=by omega
    have hh:headM M p=k:=head_is (by rw [HN.out];exact hk) HNO.out (fun x hx=>by have:=(List.getElem?_eq_some_iff.1 hx).1;rw [HN.out] at this;omega)
    have HH:=Lib.hid hh
    clear hh
    go_wp2_with fail
    go_meet
    exact ⟨by rw [HH.out],by rw [HH.out];exact hk,rfl⟩
 case rest =>
  obtain ⟨rfl,hle,rfl⟩:=hcut
  obtain ⟨k,hk⟩:∃ k,headM M p=k:=⟨_,rfl⟩
  rw [hk] at hle ⊢
  have k0:(0:Int)≤(k:Int):=by omega
  have k1:(k:Int)≤(n:Int):=by omega
  have HK:=Lib.hid hk
  have hres:withM R p f=M.take k++[⟨p,f⟩]++M.drop k:=by
   unfold withM
   simp only [HM.out,hk]
  have HRES:=Lib.hid hres
  have hfr:=rows_front A n c k (by omega)
  have hbk:=rows_back A n c k hle
  have HFW:Hid (∀ j,F j→j<w1.heap.size):=fun j hj=>by have:=HF.out j hj;omega
  have HFR:Hid (∀ W,Below w1.heap.size w1 W→RowsTmp F W (.slice A k c) (M.take k)):=fun W hW=>(HO.out.tmp.front HN.out k hle).below hW
  have HBK:∀ W,Below w1.heap.size w1 W→RowsTmp F W (.slice (if c=k then A else A.map (·.add (k*4))) (n - k) (c - k)) (M.drop k):=fun W hW=>(HO.out.tmp.back HN.out k hle).below hW
  have HBX2:Hid (∀ W,Below w1.heap.size w1 W→W.cell? ⟨w.heap.size,0,none⟩=some (.int .i64 f.mode)∧W.cell? ⟨w.heap.size,1,none⟩=some d∧W.cell? ⟨w.heap.size,2,none⟩=some (.int .i64 f.time)):=fun W hW=>by
   have hb:=HBX.out.below hW HBX.out.lt
   exact ⟨hb.cell 0,hb.cell 1,hb.cell 2⟩
  obtain ⟨A2,hA2⟩:∃ A2,(if c=k then A else A.map (·.add (k*4)))=A2:=⟨_,rfl⟩
  rw [hA2] at hbk HBK
  replace HBK:=Lib.hid HBK
  clear hk hres hle hA2
  have HB0:=Lib.hid (Below.refl w1.heap.size w1)
  have HDW:Hid (∀ W,Below w1.heap.size w1 W→By F W d f.data):=fun W hW=>HD.out.only (Only.of_below (M:=fun _=>False) (HB.out.trans (hW.mono hwz))) (fun _ _=>id)
  have hNIL:∀ W:World,RowsTmp F W (.slice none 0 0) []:=fun W=>⟨[],Rd.nil_ _ _ 4,Datas.nil_⟩
  have HNIL:=Lib.hid hNIL
  have hBL:=HB0.out.alloc (Nat.le_refl _) (.cells #[.string (str p),.int .i64 f.mode,d,.int .i64 f.time] 128)
  have hBE:=HB0.out.alloc (Nat.le_refl _) (.cells #[] 128)
  have HBL:=Lib.hid hBL
  have HC:Hid (W3 F w1 (w1.alloc (.cells #[] 128)) (.slice (some ⟨w1.heap.size,0,none⟩) 0 0) [] (.slice none 0 0) []) :=
   ⟨hBE,rows_empty_at (Blk.new _ _ _) (Nat.le_refl _) (fun hf=>by have:=HFW.out _ hf;omega),hNIL _,.inl rfl⟩
  have HBo:Hid (W3 F w1 ((w1.alloc (.cells #[] 128)).alloc (.cells #[.string (str p),.int .i64 f.mode,d,.int .i64 f.time] 128)) (.slice (some ⟨w1.heap.size,0,none⟩) 0 0) [] (.slice (some ⟨w1.heap.size+1,0,none⟩) 1 1) [⟨p,f⟩]):=by
   have:=HC.out.lit ⟨p,f⟩ d (HDW.out _ hBE)
   unfold Hid
   simpa using this
  have HA:Hid (W3 F w1 ((w1.alloc (.cells #[.string (str p),.int .i64 f.mode,d,.int .i64 f.time] 128)).alloc (.cells #[] 128)) (.slice (some ⟨w1.heap.size+1,0,none⟩) 0 0) [] (.slice (some ⟨w1.heap.size,0,none⟩) 1 1) [⟨p,f⟩]) :=
   ⟨hBL.alloc (by simp) _,rows_empty_at (blk_new (by simp)) (by omega) (fun hf=>by have:=HFW.out _ hf;omega),(rows_new F w1 ⟨p,f⟩ d (HDW.out _ HB0.out)).below ((Below.refl _ _).alloc (Nat.le_refl _) _),.inr ⟨w1.heap.size,rfl,by simp;omega,by simp [Value.ownBlock]⟩⟩
  clear hBL hBE hNIL
  have hkM:(M.take k).length≤1000000:=by rw [List.length_take,HN.out];omega
  have hdM:(M.drop k).length≤1000000:=by rw [List.length_drop,HN.out];omega
  have s1:Hid (([]:List RowM).length+(M.take k).length≤2000000):=by unfold Hid;simp only [List.length_nil];omega
  have s2:Hid (([]++M.take k).length+[(⟨p,f⟩:RowM)].length≤2000000):=by unfold Hid;simp only [List.nil_append,List.length_singleton];omega
  have s3:Hid (([]++M.take k++[(⟨p,f⟩:RowM)]).length+(M.drop k).length≤2000000):=by unfold Hid;simp only [List.nil_append,List.length_append,List.length_singleton];rw [List.length_take,List.length_drop,HN.out];omega
  clear hkM hdM
  go_upto_region 5 with (fail)
  go_cut [6] (fun r wx=>RowsOwn F wx w1.heap.size r ([]++M.take k++[⟨p,f⟩]++M.drop k)∧Below w1.heap.size w1 wx)
  case first =>
   go_region_held3 (fun W=>W.cell? ⟨w.heap.size,0,none⟩=some (.int .i64 f.mode)∧W.cell? ⟨w.heap.size,1,none⟩=some d∧W.cell? ⟨w.heap.size,2,none⟩=some (.int .i64 f.time))
    (first | with_reducible exact HBX2.out _ HB0.out | with_reducible exact HBX2.out _ HB0.out.drew | with_reducible exact HBX2.out _ HB0.out.drew.drew | with_reducible exact HBX2.out _ HBL.out | with_reducible exact HBX2.out _ HBL.out.drew | with_reducible exact HBX2.out _ HBL.out.drew.drew | with_reducible exact HBX2.out _ HC.out.below | with_reducible exact HBX2.out _ HC.out.below.drew | with_reducible exact HBX2.out _ HC.out.below.drew.drew | with_reducible exact HBX2.out _ HBo.out.below | with_reducible exact HBX2.out _ HBo.out.below.drew | with_reducible exact HBX2.out _ HBo.out.below.drew.drew | with_reducible exact HBX2.out _ HA.out.below | with_reducible exact HBX2.out _ HA.out.below.drew | with_reducible exact HBX2.out _ HA.out.below.drew.drew | with_reducible exact HBX2.out _ H30.out.below | with_reducible exact HBX2.out _ H30.out.below.drew | with_reducible exact HBX2.out _ H30.out.below.drew.drew | with_reducible exact HBX2.out _ H30L.out.below | with_reducible exact HBX2.out _ H30L.out.below.drew | with_reducible exact HBX2.out _ H30L.out.below.drew.drew | with_reducible exact HBX2.out _ H35.out.below | with_reducible exact HBX2.out _ H35.out.below.drew | with_reducible exact HBX2.out _ H35.out.below.drew.drew | with_reducible exact HBX2.out _ H39.out.below | with_reducible exact HBX2.out _ H39.out.below.drew | with_reducible exact HBX2.out _ H39.out.below.drew.drew)
    (first
     | (refine W3.step (by first | with_reducible exact H35.out | with_reducible exact H35.out.drew | with_reducible exact H35.out.drew.drew) HFW.out rfl (.tmp 35) (.tmp 38) rfl (by first | with_reducible exact HBK.out _ H35.out.below | with_reducible exact HBK.out _ H35.out.below.drew | with_reducible exact HBK.out _ H35.out.below.drew.drew) (by rfl) (by rfl) s3.out ?_;intro v39 w39 h39;have H39:=Lib.hid h39;clear h39)
     | (refine W3.step (by first | with_reducible exact H30L.out | with_reducible exact H30L.out.drew | with_reducible exact H30L.out.drew.drew | with_reducible exact H30.out | with_reducible exact H30.out.drew | with_reducible exact H30.out.drew.drew) HFW.out rfl (.tmp 30) (.tmp 34) rfl (by first | with_reducible exact H30L.out.tmp | with_reducible exact H30L.out.drew.tmp | with_reducible exact H30L.out.drew.drew.tmp | with_reducible exact H30.out.tmp | with_reducible exact H30.out.drew.tmp | with_reducible exact H30.out.drew.drew.tmp) (by rfl) (by rfl) s2.out ?_;intro v35 w35 h35;have H35:=Lib.hid h35;clear h35)
     | (refine W3.step (by first | with_reducible exact HA.out | with_reducible exact HA.out.drew | with_reducible exact HA.out.drew.drew) HFW.out rfl (.tmp 26) (.tmp 29) rfl (by first | with_reducible exact HFR.out _ HA.out.below | with_reducible exact HFR.out _ HA.out.below.drew | with_reducible exact HFR.out _ HA.out.below.drew.drew) (by rfl) (by rfl) s1.out ?_;intro v30 w30 h30;have H30:=Lib.hid h30;clear h30)
     | (refine W3.step (by first | with_reducible exact HBo.out | with_reducible exact HBo.out.drew | with_reducible exact HBo.out.drew.drew) HFW.out rfl (.tmp 26) (.tmp 29) rfl (by first | with_reducible exact HFR.out _ HBo.out.below | with_reducible exact HFR.out _ HBo.out.below.drew | with_reducible exact HFR.out _ HBo.out.below.drew.drew) (by rfl) (by rfl) s1.out ?_;intro v30 w30 h30;have H30:=Lib.hid h30;clear h30)
     | (refine W3.step (by first | with_reducible exact HC.out | with_reducible exact HC.out.drew | with_reducible exact HC.out.drew.drew) HFW.out rfl (.tmp 26) (.tmp 29) rfl (by first | with_reducible exact HFR.out _ HC.out.below | with_reducible exact HFR.out _ HC.out.below.drew | with_reducible exact HFR.out _ HC.out.below.drew.drew) (by rfl) (by rfl) s1.out ?_;intro v30 w30 h30;have H30:=Lib.hid h30;have H30L:=Lib.hid (h30.lit ⟨p,f⟩ d (HDW.out _ h30.below));clear h30))
   all_goals (go_wp2_with fail;go_meet;exact ⟨H39.out.own,H39.out.below⟩)
  case rest =>
   obtain ⟨ho,hb⟩:=hcut
   have HOX:=Lib.hid ho
   have HBXX:=Lib.hid hb
   clear ho hb
   go_wp2_with fail
   go_ret
   refine ⟨_,rfl,?_,HB.out.trans (HBXX.out.mono hwz)⟩
   rw [HRES.out]
   have:=HOX.out.base hwz
   simpa using this
end Go.Proofs.YtlkolcokjmlmjaaGreat.Tx
