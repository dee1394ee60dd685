/- Texts put together: VGw4, VGw5, VGw6, VGw7. -/
import Derived.Test.YtlkolcokjmlmjaaGreatQv39
import Derived.Test.YtlkolcokjmlmjaaGreatQv10
import Derived.Lib.SlKept
import Derived.Lib.SliceRun
set_option linter.unusedVariables false
set_option linter.unusedSimpArgs false
namespace Go.Proofs.YtlkolcokjmlmjaaGreat.Wk
open Go.Shelf Go.RowKit Go.Lib Go.Sort
section
variable {P:Program} {α:Type} [Inhabited α] {k:Nat}
end
end Go.Proofs.YtlkolcokjmlmjaaGreat.Wk
set_option linter.unusedVariables false
set_option linter.unusedSimpArgs false
namespace Go.Proofs.YtlkolcokjmlmjaaGreat.Wk
open Go.Shelf Go.RowKit Go.Lib Go.Sort
structure EvS where
 e:Tx.EvM
 A:Option Addr
 n:Nat
 c:Nat
instance:Inhabited EvS:=⟨⟨⟨0,0,0,0,0,[],[]⟩,none,0,0⟩⟩
def EvS.d (x:EvS):Value:=.slice x.A x.n x.c
def encE (x:EvS):List Value:=[.int .i64 x.e.at_,.int .i64 x.e.kind,.int .i64 x.e.mode,.int .i64 x.e.keep,.int .i64 x.e.torn,.string (Tx.str x.e.path),.slice x.A x.n x.c]
theorem encE_len (x:EvS):(encE x).length=7:=rfl
theorem encE_one (x:EvS):∀ v∈encE x,v.oneCell'=true:=by
 intro u hu
 unfold encE at hu
 simp only [List.mem_cons,List.not_mem_nil,or_false] at hu
 rcases hu with rfl | rfl | rfl | rfl | rfl | rfl | rfl <;> rfl
theorem encE_cells (x:EvS):encE x=Tx.evK.cells x.e x.d:=rfl
section
variable {α:Type} [Inhabited α] {enc:α→List Value} {k:Nat} {w0 W:World} {blk off:Nat} {dk:Array α}
theorem setMany_put (enc : α → List Value) (k : Nat) (hk : ∀ x, (enc x).length = k) (d : Array α) (i : Nat) (u : α) (hi : i < d.size) :
  setMany (flatK enc k d) (i*k) (enc u)=flatK enc k (d.setIfInBounds i u):=by
 refine ext_get! (by simp) fun t ht=>?_
 have ht':t<d.size*k:=by simpa using ht
 have k0:0<k:=by
  rcases Nat.eq_zero_or_pos k with h | h
  ·subst h;simp at ht'
  ·exact h
 rw [get_setMany _ _ _ t (by simpa using ht'),get_flatK _ _ _ t ht',get_flatK _ _ _ t (by simpa using ht'),hk]
 have m:∀ q,t / k=q→t - q*k=t % k:=fun q h=>by subst h;rw [Nat.mod_eq_sub_div_mul]
 by_cases a:t / k=i
 ·rw [if_pos ((blk_iff k i t k0).2 a),m i a,a,getElem!_set_same d i u hi]
 ·rw [if_neg (fun h=>a ((blk_iff k i t k0).1 h)),getElem!_set_other d i _ u a]
theorem swk_put (h : SWK enc k w0 blk off dk W) (hk : ∀ x, (enc x).length = k) (hblk : blk < w0.heap.size) (i : Nat) (hi : i < dk.size) (u : α) :
  SWK enc k w0 blk off (dk.setIfInBounds i u) (W.setCells blk (off+i*k) (enc u)):=by
 obtain ⟨n,os,rfl⟩:=h
 refine ⟨n,os,?_⟩
 unfold sortWorldK
 rw [setCells_grow os blk _ _ _ (by rw [size_putRowK];exact hblk)]
 unfold putRowK
 rw [setCells_putRow _ _ _ _ _ _ (by rw [hk,size_flatK];exact rowK_bnd dk k i hi),setMany_put enc k hk dk i u hi]
theorem swk_heap (h:SWK enc k w0 blk off dk W) (g:Nat) (hg:g<w0.heap.size) (hn:g≠blk):W.heap[g]? = w0.heap[g]? := by
 obtain ⟨n,os,rfl⟩:=h
 unfold sortWorldK
 rw [heap_grow_old _ _ (by rw [size_putRowK];exact hg)]
 show (w0.heap.modify blk _)[g]? = _
 rw [Array.getElem?_modify]
 rw [if_neg (fun e=>hn e.symm)]
theorem swk_only (h:SWK enc k w0 blk off dk W):Tx.Only (fun g=>g=blk) w0 W:=by
 have hs:=h.le
 refine ⟨?_,?_,?_,hs,fun g hg hn=>swk_heap h g hg hn⟩
 all_goals
  obtain ⟨n,os,rfl⟩:=h
  rfl
end
end Go.Proofs.YtlkolcokjmlmjaaGreat.Wk
set_option linter.unusedVariables false
set_option linter.unusedSimpArgs false
namespace Go.Proofs.YtlkolcokjmlmjaaGreat.Wk
open Go.Shelf Go.RowKit Go.Lib Go.Sort
set_option maxRecDepth 100000 in
set_option maxHeartbeats 800000 in
theorem plan1_any (x cl:Int) (a1 a2 a3 a4 a5 a6:Value) (q:Nat) (w:World) (hq:w.cell? ⟨q,0,none⟩=some (.int .i64 cl)):Calls Tryz.prog 112 #[.agg #[.int .i64 x,a1,a2,a3,a4,a5,a6],.pointer (some ⟨q,0,none⟩)] w fun e w'=>e=.returned (.bool (decide (x≤cl)))∧∃ n os,w'=grow (w.drewN n) os:=by
 have hq2:(w.alloc (.cells #[.int .i64 x,a1,a2,a3,a4,a5,a6] 109)).cell? ⟨q,0,none⟩=some (.int .i64 cl):=Lib.cell?_alloc_some _ hq
 clear hq
 go_enter Tryz.func112,Tryz.ntmps112
 go_wp2_with fail
 go_ret
 refine ⟨rfl,0,#[.cells #[.int .i64 x,a1,a2,a3,a4,a5,a6] 109],?_⟩
 rw [alloc_eq_grow]
 rfl
structure Row7 (W:World) (g i:Nat) (x:EvS):Prop where
 c0:W.cell? ⟨g,i*7,none⟩=some (.int .i64 x.e.at_)
 c1:W.cell? ⟨g,i*7+1,none⟩=some (.int .i64 x.e.kind)
 c2:W.cell? ⟨g,i*7+2,none⟩=some (.int .i64 x.e.mode)
 c3:W.cell? ⟨g,i*7+3,none⟩=some (.int .i64 x.e.keep)
 c4:W.cell? ⟨g,i*7+4,none⟩=some (.int .i64 x.e.torn)
 c5:W.cell? ⟨g,i*7+5,none⟩=some (.string (Tx.str x.e.path))
 c6:W.cell? ⟨g,i*7+6,none⟩=some (.slice x.A x.n x.c)
 f:∀ j,j<7→W.frozen? ⟨g,i*7+j,none⟩=false
theorem row7 {w0 W:World} {g:Nat} {d D:Array EvS} (h:SWK encE 7 w0 g 0 D W) (R:RowK encE 7 w0 g 0 d) (hs:D.size=d.size) (i:Nat) (hi:i<D.size):Row7 W g i D[i]! := by
 have hH:=h.holds R.hblk R.hH hs
 have hc:=fun c (hc:c<7)=>HoldsK.cell hH hi (c:=c) hc
 simp only [Nat.zero_add] at hc
 exact ⟨(hc 0 (by decide)).1,(hc 1 (by decide)).1,(hc 2 (by decide)).1,(hc 3 (by decide)).1,(hc 4 (by decide)).1,(hc 5 (by decide)).1,(hc 6 (by decide)).1,fun j hj=>(hc j hj).2⟩
def keepE (cl:Int) (x:EvS):Bool:=!decide (x.e.at_≤cl)
def cb1 (q:Nat):Array Value:=#[.pointer (some ⟨q,0,none⟩)]
theorem swk_cell {w0 W:World} {g q:Nat} {D:Array EvS} {u:Value} (h:SWK encE 7 w0 g 0 D W) (hq:w0.cell? ⟨q,0,none⟩=some u) (hn:q≠g) (hl:q<w0.heap.size):W.cell? ⟨q,0,none⟩=some u :=
 (World.cell?_of_block (a:=⟨q,0,none⟩) (swk_heap h q hl hn)).trans hq
set_option maxRecDepth 100000 in
set_option maxHeartbeats 3200000 in
theorem indexf_any (g cap N q : Nat) (cl : Int) (d : Array EvS) (w : World) (hq : w.cell? ⟨q, 0, none⟩ = some (.int .i64 cl)) (hqg : q ≠ g) (hql : q < w.heap.size) (R : RowK encE 7 w g 0 d) (hN : d.size = N) (hsz : N < 1000000000000000000) :
  Calls Tryz.prog 141 #[.slice (some ⟨g,0,none⟩) N cap,.func (.func 112) #[] (cb1 q)] w fun e w'=>SWK encE 7 w g 0 d w'∧((e=.returned (.int .i64 (-1))∧∀ j,j<N→keepE cl d[j]! = true)∨∃ k:Nat,k<N∧e=.returned (.int .i64 k)∧(∀ j,j<k→keepE cl d[j]! = true)∧keepE cl d[k]! = false):=by
 have HQ:Aside (w.cell? ⟨q,0,none⟩=some (.int .i64 cl)):=hq
 have HR:Aside (RowK encE 7 w g 0 d):=R
 have HN:Aside (d.size=N):=hN
 have HS:Aside (SWK encE 7 w g 0 d w):=SWK.start R.hH
 clear hq R hN
 unfold cb1
 go_enter Tryz.func141,Tryz.ntmps141
 go_wp2
 go_loopg [5,8] N (fun gg _ s8 wr=>∃ kk:Nat,kk≤N∧N - kk≤gg∧s8=.int .i64 kk∧Aside (SWK encE 7 w g 0 d wr)∧Aside (∀ j,j<kk→keepE cl d[j]! = true))
 case atStart=>exact ⟨0,Nat.zero_le _,by omega,rfl,HS,fun j hj=>absurd hj (Nat.not_lt_zero _)⟩
 case round =>
  clear HS
  obtain ⟨kk,hkk,hg,rfl,HS,HA⟩:=hrel
  by_cases hlt:kk<N
  ·have hltz:(kk:Int)<(N:Int):=by omega
   have hr:=row7 HS.out HR.out rfl kk (by rw [HN.out];exact hlt)
   have hqw:=swk_cell HS.out HQ.out hqg hql
   generalize hu:d[kk]! = u at hr
   have HU:Aside (d[kk]! = u):=hu
   obtain ⟨c0,c1,c2,c3,c4,c5,c6,_⟩:=hr
   have hkp:keepE cl u=!decide (u.e.at_≤cl):=rfl
   have HKP:Aside (keepE cl u=!decide (u.e.at_≤cl)):=hkp
   clear hu hkp
   go_wp2_with fail
   refine (plan1_any _ cl _ _ _ _ _ _ q _ hqw).mono ?_
   rintro e w2 ⟨rfl,n,os,hw2⟩
   have HS2:Aside (SWK encE 7 w g 0 d w2):=by rw [hw2];exact HS.out.grown n os
   clear hw2 hqw c0 c1 c2 c3 c4 c5 c6
   by_cases hle:u.e.at_≤cl
   ·have HF:Aside (keepE cl u=false):=by rw [HKP.out,decide_eq_true hle];rfl
    rw [decide_eq_true hle]
    go_wp2_with fail
    go_ret
    exact ⟨HS2.out,.inr ⟨kk,hlt,rfl,HA.out,by rw [HU.out];exact HF.out⟩⟩
   ·have HF:Aside (keepE cl u=true):=by rw [HKP.out,decide_eq_false hle];rfl
    rw [decide_eq_false hle]
    go_wp2_with fail
    go_roundg (N - (kk+1))
    case measure=>omega
    case rel=>exact ⟨kk+1,by omega,by omega,by go_num,HS2,fun j hj=>by
     by_cases e:j=kk
     ·subst e;rw [HU.out];exact HF.out
     ·exact HA.out j (by omega)⟩
  ·have hltz:¬ (kk:Int)<(N:Int):=by omega
   obtain rfl:kk=N:=by omega
   go_wp2_with fail
   go_ret
   exact ⟨HS.out,.inl ⟨rfl,HA.out⟩⟩
end Go.Proofs.YtlkolcokjmlmjaaGreat.Wk
set_option linter.unusedVariables false
set_option linter.unusedSimpArgs false
namespace Go.Proofs.YtlkolcokjmlmjaaGreat.Wk
open Go.Shelf Go.RowKit Go.Lib Go.Sort
section
variable {P:Program}
theorem zeroCells_len (z:Array Value) (n:Nat):(Builtin.zeroCells z n).size=n*z.size:=by
 unfold Builtin.zeroCells
 simp
theorem run_clear_k (w : World) (t e ty : TypeId) (z : Value) (ht : P.underlying t = some (.slice e)) (hv : ∀ w, (zeroValue e).run P w = .ok z w) (hk : 0 < z.cells.size) (h1 : ∀ i, i < z.cells.size → z.cells[i]!.oneCell' = true) (b o n c : Nat) (hn : 0 < n)
  (hc:∀ j,j<n*z.cells.size→(w.cell? ⟨b,o+j,none⟩).isSome=true) (hf:∀ j,j<n*z.cells.size→w.frozen? ⟨b,o+j,none⟩=false) :
  (Builtin.clear_ #[t] ty #[.slice (some ⟨b,o,none⟩) n c]).run P w=.ok (.tuple #[]) (w.setCells b o (Builtin.zeroCells z.cells n).toList):=by
 have hlen:=zeroCells_len z.cells n
 have hone:∀ v∈(Builtin.zeroCells z.cells n).toList,v.oneCell'=true:=by
  intro v hv
  unfold Builtin.zeroCells at hv
  simp only [Array.toList_map,List.mem_map] at hv
  obtain ⟨i,_,rfl⟩:=hv
  exact h1 _ (Nat.mod_lt _ hk)
 have hst:=run_storeCells_cells (P:=P) b o (Builtin.zeroCells z.cells n).toList 0 w (by simpa [hlen] using hc) (by simpa [hlen] using hf) hone
 simp only [Nat.add_zero] at hst
 obtain ⟨m,rfl⟩:∃ m,n=m+1:=⟨n - 1,by omega⟩
 simp [Builtin.clear_,run_underlying ht,hv,hst]
end
theorem setCells_ahead (b:Nat):∀ (vs:List Value) (o x:Nat) (w:World),x<o→(w.setCells b o vs).cell? ⟨b,x,none⟩=w.cell? ⟨b,x,none⟩∧(w.setCells b o vs).frozen? ⟨b,x,none⟩=w.frozen? ⟨b,x,none⟩
 | [],_,_,_,_=>⟨rfl,rfl⟩
 | v::vs,o,x,w,h=>by
  obtain ⟨h1,h2⟩:=setCells_ahead b vs (o+1) x (w.setCell ⟨b,o,none⟩ v) (by omega)
  rw [World.setCells]
  refine ⟨h1.trans ?_,h2.trans ?_⟩
  ·exact World.cell?_setCell_other _ _ _ _ (by intro h;simp only [Addr.mk.injEq] at h;omega)
  ·rw [setCell_eq,frozen?_mapBlock]
theorem setCells_only (b:Nat):∀ (vs:List Value) (o:Nat) (w:World),Tx.Only (fun g=>g=b) w (w.setCells b o vs)
 | [],_,w=>Tx.Only.refl _ w
 | v::vs,o,w=>by
  rw [World.setCells]
  exact (Tx.Only.set_ (M:=fun g=>g=b) (g:=b) (i:=o) (Tx.Only.refl _ w) (.inl rfl) v).trans (setCells_only b vs (o+1) _) (fun _ h=>.inl h)
theorem holds_ahead_of {w:World} {g i:Nat} {D:Array EvS} {vs:List Value} (h:HoldsK encE 7 w g 0 D) (hi:i≤D.size):HoldsK encE 7 (w.setCells g (i*7) vs) g 0 (D.extract 0 i):=by
 intro j hj
 rw [size_flatK,Array.size_extract,Nat.min_eq_left hi,Nat.sub_zero] at hj
 have hd:j / 7<i:=by omega
 have hj2:j<D.size*7:=Nat.lt_of_lt_of_le hj (Nat.mul_le_mul_right 7 hi)
 obtain ⟨h1,h2⟩:=h j (by rw [size_flatK];exact hj2)
 obtain ⟨g1,g2⟩:=setCells_ahead g vs (i*7) j w hj
 rw [Nat.zero_add] at h1 h2 ⊢
 refine ⟨(g1.trans h1).trans ?_,g2.trans h2⟩
 rw [get_flatK _ _ _ _ hj2,get_flatK _ _ _ _ (by rw [Array.size_extract,Nat.min_eq_left hi,Nat.sub_zero];exact hj)]
 have e:(D.extract 0 i)[j / 7]! = D[j / 7]! := by
  rw [getElem!_pos (D.extract 0 i) (j / 7) (by rw [Array.size_extract];omega),getElem!_pos D (j / 7) (by omega)]
  simp
 rw [e]
def DelPost (cl:Int) (g cap:Nat) (d:Array EvS) (w:World) (e:Ending) (w':World):Prop:=∃ D:Array EvS,D.toList=d.toList.filter (keepE cl)∧e=.returned (.slice (some ⟨g,0,none⟩) D.size cap)∧HoldsK encE 7 w' g 0 D∧Tx.Only (fun k=>k=g) w w'
theorem toList_at {D:Array EvS} {j:Nat} (hj:j<D.size):D.toList[j]? = some D[j]! := by
 rw [Array.getElem?_toList,getElem!_pos D j hj]
 exact Array.getElem?_eq_getElem hj
set_option maxRecDepth 100000 in
set_option maxHeartbeats 12800000 in
theorem delete_any (g cap N q : Nat) (cl : Int) (d : Array EvS) (w : World) (hq : w.cell? ⟨q, 0, none⟩ = some (.int .i64 cl)) (hqg : q ≠ g) (hql : q < w.heap.size) (R : RowK encE 7 w g 0 d) (hN : d.size = N) (hcap : N ≤ cap) (hsz : N < 1000000000000000000) :
  Calls Tryz.prog 110 #[.slice (some ⟨g,0,none⟩) N cap,.func (.func 112) #[] (cb1 q)] w (DelPost cl g cap d w):=by
 have HQ:Aside (w.cell? ⟨q,0,none⟩=some (.int .i64 cl)):=hq
 have HR:Aside (RowK encE 7 w g 0 d):=R
 have HN:Aside (d.size=N):=hN
 have HI:=Lib.hid (indexf_any g cap N q cl d w hq hqg hql R hN hsz)
 have HKF:Aside (keptUpTo (fun j=>keepE cl d[j]!) d d.size=d.toList.filter (keepE cl)):=keptUpTo_filter (keepE cl) d
 clear hq R hN
 go_enter Tryz.func110,Tryz.ntmps110
 go_wp2_with fail
 refine HI.out.mono ?_
 rintro e w1 ⟨hs1,⟨rfl,hall⟩ | ⟨k0,hk0,rfl,hall,hno⟩⟩
 ·have HS1:Aside (SWK encE 7 w g 0 d w1):=hs1
  have HA:Aside (∀ j,j<N→keepE cl d[j]! = true):=hall
  clear hs1 hall HI
  go_wp2_with fail
  go_ret
  have hk:d.toList.filter (keepE cl)=d.toList:=by
   rw [← HKF.out,keptUpTo_all _ _ _ (fun j hj=>HA.out j (by rw [← HN.out];exact hj))]
   exact range_map_get d
  exact ⟨d,hk.symm,by rw [HN.out];rfl,HS1.out.holds HR.out.hblk HR.out.hH rfl,swk_only HS1.out⟩
 ·have HS1:Aside (SWK encE 7 w g 0 d w1):=hs1
  have HK:Aside (KeptInv (fun j=>keepE cl d[j]!) d (k0+1) k0 d):=KeptInv.start hall hno
  have hne:((k0:Int)==-1)=false:=beq_eq_false_iff_ne.2 (by omega)
  have wk0:IntKind.i64.wrap ((k0:Int)+1)=((k0+1:Nat):Int):=by rw [IntKind.wrap_i64];omega
  clear hs1 hall hno HI
  go_wp2_with fail
  go_loopg [5,6,7] N (fun gg s5 s6 _ wr=>∃ (i j:Nat) (D:Array EvS),s5=.int .i64 i∧s6=.int .i64 j∧j≤N∧N - j≤gg∧Aside (SWK encE 7 w g 0 D wr∧KeptInv (fun j=>keepE cl d[j]!) d j i D))
  case atStart=>exact ⟨k0,k0+1,d,rfl,by go_num,by omega,by omega,HS1.out,HK.out⟩
  case round =>
   clear HS1 HK
   obtain ⟨i,j,D,rfl,rfl,hjN,hgg,HS⟩:=hrel
   have hij:=HS.out.2.lt
   have hDs:D.size=d.size:=HS.out.2.size
   by_cases hlt:j<N
   ·have hltz:(j:Int)<(N:Int):=by omega
    have wj:IntKind.i64.wrap ((j:Int)+1)=((j+1:Nat):Int):=by rw [IntKind.wrap_i64];omega
    have wi:IntKind.i64.wrap ((i:Int)+1)=((i+1:Nat):Int):=by rw [IntKind.wrap_i64];omega
    have hr:=row7 HS.out.1 HR.out hDs j (by rw [hDs,HN.out];exact hlt)
    rw [HS.out.2.high j (by omega)] at hr
    have hqw:=swk_cell HS.out.1 HQ.out hqg hql
    generalize hu:d[j]! = u at hr
    have HU:Aside (d[j]! = u):=hu
    obtain ⟨⟨at_,kind,mode,keep,torn,path,data⟩,A,n,c⟩:=u
    obtain ⟨c0,c1,c2,c3,c4,c5,c6,_⟩:=hr
    dsimp only at c0 c1 c2 c3 c4 c5 c6
    have hqb:(wr.alloc (.cells #[.int .i64 at_,.int .i64 kind,.int .i64 mode,.int .i64 keep,.int .i64 torn,.string (Tx.str path),.slice A n c] 109)).cell? ⟨q,0,none⟩=some (.int .i64 cl):=Lib.cell?_alloc_some _ hqw
    have HSA:Aside (SWK encE 7 w g 0 D (wr.alloc (.cells #[.int .i64 at_,.int .i64 kind,.int .i64 mode,.int .i64 keep,.int .i64 torn,.string (Tx.str path),.slice A n c] 109))):=HS.out.1.alloc _
    have HBK:Aside (Sh.Blk (wr.alloc (.cells #[.int .i64 at_,.int .i64 kind,.int .i64 mode,.int .i64 keep,.int .i64 torn,.string (Tx.str path),.slice A n c] 109)) wr.heap.size 109 #[.int .i64 at_,.int .i64 kind,.int .i64 mode,.int .i64 keep,.int .i64 torn,.string (Tx.str path),.slice A n c]):=Sh.Blk.new _ _ _
    clear hu hqw
    go_wp2_with fail
    refine (plan1_any _ cl _ _ _ _ _ _ q _ hqb).mono ?_
    rintro e w2 ⟨rfl,n2,os2,hw2⟩
    have HS2:Aside (SWK encE 7 w g 0 D w2∧KeptInv (fun j=>keepE cl d[j]!) d j i D):=by rw [hw2];exact ⟨HSA.out.grown n2 os2,HS.out.2⟩
    have HB2:Aside (Sh.Blk w2 wr.heap.size 109 #[.int .i64 at_,.int .i64 kind,.int .i64 mode,.int .i64 keep,.int .i64 torn,.string (Tx.str path),.slice A n c]):=by
     rw [hw2]
     exact (heap_grow_old _ _ HBK.out.lt).trans HBK.out
    have y0:=HB2.out.cell 0
    have y1:=HB2.out.cell 1
    have y2:=HB2.out.cell 2
    have y3:=HB2.out.cell 3
    have y4:=HB2.out.cell 4
    have y5:=HB2.out.cell 5
    have y6:=HB2.out.cell 6
    have hr:=row7 HS2.out.1 HR.out hDs i (by rw [hDs,HN.out];omega)
    generalize D[i]! = old at hr
    obtain ⟨o0,o1,o2,o3,o4,o5,o6,of_⟩:=hr
    have f0:=of_ 0 (by decide)
    have f1:=of_ 1 (by decide)
    have f2:=of_ 2 (by decide)
    have f3:=of_ 3 (by decide)
    have f4:=of_ 4 (by decide)
    have f5:=of_ 5 (by decide)
    have f6:=of_ 6 (by decide)
    rw [Nat.add_zero] at f0
    have hiN:(i:Int)<(N:Int):=by omega
    have hi0:(0:Int)≤(i:Int):=by omega
    clear hw2 hqb c0 c1 c2 c3 c4 c5 c6 HSA HBK HS of_
    have HKE:Aside (keepE cl ⟨⟨at_,kind,mode,keep,torn,path,data⟩,A,n,c⟩=!decide (at_≤cl)):=rfl
    by_cases hle:at_≤cl
    ·rw [decide_eq_true hle]
     have HNO:Aside (keepE cl d[j]! = false):=by rw [HU.out,HKE.out,decide_eq_true hle];rfl
     go_wp2_with fail
     go_roundg (N - (j+1))
     case measure=>omega
     case rel=>exact ⟨i,j+1,D,rfl,by go_num,by omega,Nat.le_refl _,HS2.out.1,HS2.out.2.skip HNO.out⟩
    ·rw [decide_eq_false hle]
     have HYES:Aside (keepE cl d[j]! = true):=by rw [HU.out,HKE.out,decide_eq_false hle];rfl
     have HS3:Aside (SWK encE 7 w g 0 (D.setIfInBounds i d[j]!) (w2.setCells g (i*7) (encE ⟨⟨at_,kind,mode,keep,torn,path,data⟩,A,n,c⟩))∧KeptInv (fun j=>keepE cl d[j]!) d (j+1) (i+1) (D.setIfInBounds i d[j]!)):=by
      have h1:=swk_put HS2.out.1 encE_len HR.out.hblk i (by rw [hDs,HN.out];omega) d[j]!
      rw [Nat.zero_add] at h1
      rw [HU.out] at h1 ⊢
      refine ⟨h1,?_⟩
      have h2:=HS2.out.2.keep (by rw [HN.out];exact hlt) HYES.out
      rw [HU.out] at h2
      exact h2
     go_wp2_with fail
     go_roundg (N - (j+1))
     case measure=>omega
     case rel=>exact ⟨i+1,j+1,_,by go_num,by go_num,by omega,Nat.le_refl _,HS3⟩
   ·obtain rfl:j=N:=by omega
    have hltz:¬ (j:Int)<(j:Int):=by omega
    have hsl:∀ w,(Instr.slice 33 (.slice (some ⟨g,0,none⟩) j cap) (some (.int .i64 i)) none none).run Tryz.prog w=.ok (.slice (some ⟨g,i*7,none⟩) (j - i) (cap - i)) w:=fun w=>by
     rw [run_slice_l w 33 (some ⟨g,0,none⟩) j cap Tryz.underlying33 .i64 i (by omega) (by omega),show (sizeOf (Tryz.prog.elem 33)).run Tryz.prog w=.ok 7 w by kernel_rfl]
     simp only [Result.andThen_ok,sliced,Int.toNat_natCast]
     rw [if_neg (by omega)]
     simp [Addr.add_mid]
    have hsh:∀ w,(Instr.slice 33 (.slice (some ⟨g,0,none⟩) j cap) none (some (.int .i64 i)) none).run Tryz.prog w=.ok (.slice (some ⟨g,0,none⟩) i cap) w:=fun w=>by
     rw [run_slice_h w 33 (some ⟨g,0,none⟩) j cap Tryz.underlying33 .i64 i (by omega) (by omega),show (sizeOf (Tryz.prog.elem 33)).run Tryz.prog w=.ok 7 w by kernel_rfl]
     simp only [Result.andThen_ok,sliced,Int.toNat_natCast]
     simp [Addr.add_mid]
    have hH:=HS.out.1.holds HR.out.hblk HR.out.hH hDs
    have hcell:∀ t,t<(j - i)*7→(wr.cell? ⟨g,i*7+t,none⟩).isSome=true∧wr.frozen? ⟨g,i*7+t,none⟩=false:=fun t ht=>by
     have h9:=hH (i*7+t) (by rw [size_flatK,hDs,HN.out];omega)
     rw [Nat.zero_add] at h9
     exact ⟨by rw [h9.1];rfl,h9.2⟩
    have hcl:∀ ty,(Builtin.clear_ #[33] ty #[.slice (some ⟨g,i*7,none⟩) (j - i) (cap - i)]).run Tryz.prog wr=.ok (.tuple #[]) (wr.setCells g (i*7) (Builtin.zeroCells (Value.agg #[.int .i64 0,.int .i64 0,.int .i64 0,.int .i64 0,.int .i64 0,.string ⟨#[]⟩,.slice none 0 0]).cells (j - i)).toList):=fun ty =>
     run_clear_k wr 33 109 ty _ Tryz.underlying33 (fun w=>by kernel_rfl) (by decide) (by decide) g (i*7) (j - i) (cap - i) (by omega) (fun t ht=>(hcell t ht).1) (fun t ht=>(hcell t ht).2)
    have HF:Aside (DelPost cl g cap d w (.returned (.slice (some ⟨g,0,none⟩) i cap)) (wr.setCells g (i*7) (Builtin.zeroCells (Value.agg #[.int .i64 0,.int .i64 0,.int .i64 0,.int .i64 0,.int .i64 0,.string ⟨#[]⟩,.slice none 0 0]).cells (j - i)).toList)):=by
     have hiD:i≤D.size:=by rw [hDs,HN.out];omega
     refine ⟨D.extract 0 i,?_,by rw [Array.size_extract,Nat.min_eq_left hiD,Nat.sub_zero],holds_ahead_of hH hiD,(swk_only HS.out.1).trans (setCells_only g _ _ _) (fun _ h=>.inl h)⟩
     rw [← HKF.out]
     have hI:=HS.out.2
     have hlen:=hI.len
     rw [← HN.out] at hlen hI
     apply List.ext_getElem?
     intro t
     by_cases ht:t<i
     ·rw [hI.low t ht]
      have h9:t<(D.extract 0 i).size:=by rw [Array.size_extract];omega
      rw [toList_at h9,getElem!_pos _ t h9,getElem!_pos D t (by omega)]
      simp
     ·rw [List.getElem?_eq_none (by rw [Array.length_toList,Array.size_extract];omega),List.getElem?_eq_none (by omega)]
    generalize wr.setCells g (i*7) (Builtin.zeroCells (Value.agg #[.int .i64 0,.int .i64 0,.int .i64 0,.int .i64 0,.int .i64 0,.string ⟨#[]⟩,.slice none 0 0]).cells (j - i)).toList=wz at hcl HF
    clear hH hcell
    go_wp2_with fail
    go_ret
    exact HF.out
end Go.Proofs.YtlkolcokjmlmjaaGreat.Wk
