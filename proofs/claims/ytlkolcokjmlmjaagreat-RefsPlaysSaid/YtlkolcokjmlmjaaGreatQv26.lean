/- Texts put together: VShW7, VShW8, VShH1, VShW9. -/
import Derived.Test.YtlkolcokjmlmjaaGreatQv25
import Derived.Laws.CopyOwn
namespace Go.Proofs.YtlkolcokjmlmjaaGreat.Sh
open Go.RowKit
theorem lastOf_length (rest:List UInt8) (n:Nat) (h:rest.length=n % 64):∃ N,(lastOf rest n).length=64*N:=by
 refine ⟨(n % 64+zeros n+9) / 64,?_⟩
 unfold lastOf
 rw [List.length_append,List.length_append,List.length_cons,List.length_replicate,len8_length,h]
 unfold zeros
 omega
theorem HB.state_ {w:World} {b:Nat} {s:St} {rest:List UInt8} {n:Nat} {d m:Int} {ad:List Value} (h:HB w b s rest n d m ad):w.rangeAt b 0 (stc s).toList:=by
 intro j v hv
 rw [Nat.zero_add,h.cell_,if_pos (by have:=(List.getElem?_eq_some_iff.1 hv).1;rw [stc_length] at this;omega)]
 exact hv
theorem stc_one (s:St):(stc s).all (·.oneCell')=true:=by simp [stc,wv,Value.oneCell']
theorem stc_cell {w : World} {g : Nat} {s : St} (h : Blk w g 174 (stc s)) : w.cell? ⟨g, 0, none⟩ = some (.int .u32 (wi s.a)) ∧ w.cell? ⟨g, 1, none⟩ = some (.int .u32 (wi s.b)) ∧ w.cell? ⟨g, 2, none⟩ = some (.int .u32 (wi s.c)) ∧
  w.cell? ⟨g,3,none⟩=some (.int .u32 (wi s.d))∧w.cell? ⟨g,4,none⟩=some (.int .u32 (wi s.e))∧w.cell? ⟨g,5,none⟩=some (.int .u32 (wi s.f))∧w.cell? ⟨g,6,none⟩=some (.int .u32 (wi s.g))∧w.cell? ⟨g,7,none⟩=some (.int .u32 (wi s.h)) :=
 ⟨(h.cell 0).trans rfl,(h.cell 1).trans rfl,(h.cell 2).trans rfl,(h.cell 3).trans rfl,(h.cell 4).trans rfl,(h.cell 5).trans rfl,(h.cell 6).trans rfl,(h.cell 7).trans rfl⟩
theorem stc_frozen {w : World} {g : Nat} {s : St} (h : Blk w g 174 (stc s)) : w.frozen? ⟨g, 0, none⟩ = false ∧ w.frozen? ⟨g, 1, none⟩ = false ∧ w.frozen? ⟨g, 2, none⟩ = false ∧
  w.frozen? ⟨g,3,none⟩=false∧w.frozen? ⟨g,4,none⟩=false∧w.frozen? ⟨g,5,none⟩=false∧w.frozen? ⟨g,6,none⟩=false∧w.frozen? ⟨g,7,none⟩=false :=
 ⟨h.frozen 0,h.frozen 1,h.frozen 2,h.frozen 3,h.frozen 4,h.frozen 5,h.frozen 6,h.frozen 7⟩
theorem fold_agg (s : St) (ad : Addr) (cap : Nat) (bs : List UInt8) (g o : Nat) (w : World) (hcap : 64 ≤ cap) (hcap2 : cap ≤ maxLen) (hb : ad.block < w.heap.size)
  (hc:∀ k,k<64→w.cell? (ad.add k)=some (.int .u8 (bi (bs.getD k 0)))) (hg:g<w.heap.size)
  (hk:∀ j,j<64→w.cell? ⟨g,o+j,none⟩=some (.int .u32 (wi (kList.getD j 0)))) :
  Calls Tryz.prog 148 #[.agg #[.int .u32 (wi s.a),.int .u32 (wi s.b),.int .u32 (wi s.c),.int .u32 (wi s.d),.int .u32 (wi s.e),.int .u32 (wi s.f),.int .u32 (wi s.g),.int .u32 (wi s.h)],.slice (some ad) 64 cap,.pointer (some ⟨g,o,none⟩)] w
   fun e w'=>∃ t,Hid (t=press s bs)∧e=.returned (.agg #[.int .u32 (wi t.a),.int .u32 (wi t.b),.int .u32 (wi t.c),.int .u32 (wi t.d),.int .u32 (wi t.e),.int .u32 (wi t.f),.int .u32 (wi t.g),.int .u32 (wi t.h)])∧Below w.heap.size w w' :=
 (fold_any s ad cap bs g o w hcap hcap2 hb hc hg hk).mono fun _ _ h=>⟨press s bs,rfl,h.1,h.2⟩
theorem sub_cells {w : World} {g o k M : Nat} {L : List UInt8} (h : ∀ j, j < M → w.cell? ⟨g, o + j, none⟩ = some (.int .u8 (bi (L.getD (64 * k + j) 0)))) (hM : 64 ≤ M) :
  ∀ i,i<64→w.cell? ((⟨g,o,none⟩:Addr).add i)=some (.int .u8 (bi (((L.drop (64*k)).take 64).getD i 0))):=by
 intro i hi
 rw [Addr.add_mid,h i (by omega)]
 simp only [List.getD_eq_getElem?_getD,List.getElem?_take,if_pos hi,List.getElem?_drop]
theorem stc_sets (s t:St):((((((((stc s).setIfInBounds 0 (.int .u32 (wi t.a))).setIfInBounds 1 (.int .u32 (wi t.b))).setIfInBounds 2 (.int .u32 (wi t.c))).setIfInBounds 3 (.int .u32 (wi t.d))).setIfInBounds 4 (.int .u32 (wi t.e))).setIfInBounds 5 (.int .u32 (wi t.f))).setIfInBounds 6 (.int .u32 (wi t.g))).setIfInBounds 7 (.int .u32 (wi t.h))=stc t:=by
 simp [stc,wv]
theorem set8 {w : World} {g : Nat} {s : St} (h : Blk w g 174 (stc s)) (t : St) :
  Blk ((((((((w.setCell ⟨g,0,none⟩ (.int .u32 (wi t.a))).setCell ⟨g,1,none⟩ (.int .u32 (wi t.b))).setCell ⟨g,2,none⟩ (.int .u32 (wi t.c))).setCell ⟨g,3,none⟩ (.int .u32 (wi t.d))).setCell ⟨g,4,none⟩ (.int .u32 (wi t.e))).setCell ⟨g,5,none⟩ (.int .u32 (wi t.f))).setCell ⟨g,6,none⟩ (.int .u32 (wi t.g))).setCell ⟨g,7,none⟩ (.int .u32 (wi t.h))) g 174 (stc t) :=
 by rw [← stc_sets s t];exact (((((((h.set_ 0 _).set_ 1 _).set_ 2 _).set_ 3 _).set_ 4 _).set_ 5 _).set_ 6 _).set_ 7 _
theorem only8 {a w : World} {g : Nat} (h : a.grownBy w (some g)) (u0 u1 u2 u3 u4 u5 u6 u7 : Value) :
  a.grownBy ((((((((w.setCell ⟨g,0,none⟩ u0).setCell ⟨g,1,none⟩ u1).setCell ⟨g,2,none⟩ u2).setCell ⟨g,3,none⟩ u3).setCell ⟨g,4,none⟩ u4).setCell ⟨g,5,none⟩ u5).setCell ⟨g,6,none⟩ u6).setCell ⟨g,7,none⟩ u7) (some g) :=
 only_setCell (only_setCell (only_setCell (only_setCell (only_setCell (only_setCell (only_setCell (only_setCell h (.inl rfl) _) (.inl rfl) _) (.inl rfl) _) (.inl rfl) _) (.inl rfl) _) (.inl rfl) _) (.inl rfl) _) (.inl rfl) _
theorem only_then_new {a w w1:World} {g b:Nat} (h:a.grownBy w (some b)) (h1:w.grownBy w1 (some g)) (hg:a.heap.size≤g):a.grownBy w1 (some b) :=
 ⟨h1.os.trans h.os,h1.tape.trans h.tape,h1.output.trans h.output,Nat.le_trans h.size h1.size,fun i hi hne=>(h1.block i (Nat.lt_of_lt_of_le hi h.size) (by intro e;injection e;omega)).trans (h.block i hi hne)⟩
theorem idx8 (t:St) (k:Nat) (hk:k<8) (w:World):(Instr.index 174 (.agg (stc t)) (.int .i64 (k:Int))).run Tryz.prog w=.ok (.int .u32 (wi (t.list.getD k 0))) w:=by
 obtain rfl | rfl | rfl | rfl | rfl | rfl | rfl | rfl:k=0∨k=1∨k=2∨k=3∨k=4∨k=5∨k=6∨k=7:=by omega
 all_goals kernel_rfl
theorem outB_take (t:St) (k:Nat) (hk:k<8):(outB t).take (4*(k+1))=(outB t).take (4*k)++be4 (t.list.getD k 0):=by
 obtain rfl | rfl | rfl | rfl | rfl | rfl | rfl | rfl:k=0∨k=1∨k=2∨k=3∨k=4∨k=5∨k=6∨k=7:=by omega
 all_goals rfl
theorem outB_length (t:St):(outB t).length=32:=rfl
theorem wcut (u:UInt32):IntKind.u8.wrap (wi u)=bi u.toUInt8:=by
 unfold wi bi
 rw [IntKind.wrap_u8,UInt32.toNat_toUInt8]
 omega
theorem Own.base {w:World} {B B':Nat} {v:Value} {bs:List UInt8} (h:Own w B v bs) (hB:B'≤B):Own w B' v bs:=by
 unfold Own at h ⊢
 refine ⟨h.1,?_⟩
 rcases h.2 with h0 | ⟨g,cap,cur,hv,hb,r⟩
 ·exact .inl h0
 ·exact .inr ⟨g,cap,cur,hv,by omega,r⟩
def SumPost (b:Nat) (s:St) (rest:List UInt8) (n:Nat) (w:World) (bs:List UInt8) (e:Ending) (w':World):Prop :=
 ∃ v,e=.returned v∧Own w' w.heap.size v bs∧HB w' b s rest n 1 0 kv∧w.grownBy w' (some b)
set_option maxRecDepth 100000 in
set_option maxHeartbeats 800000 in
theorem sum_any (b : Nat) (s : St) (rest : List UInt8) (n : Nat) (d : Int) (ad : List Value) (w : World) (h : HB w b s rest n d 0 ad) (hm : Made d ad) (hn : n < 2 ^ 60) :
  Calls Tryz.prog 121 #[.pointer (some ⟨b,0,none⟩)] w (SumPost b s rest n w (outB (blocks s (lastOf (rest.take (n % 64)) n) ((lastOf (rest.take (n % 64)) n).length / 64)))):=by
 have hbl:=h.lt
 have H:=Lib.hid h
 clear h
 go_enter Tryz.func121,Tryz.ntmps121
 go_wp2_with fail
 refine (constants_any b s rest n d ad _ H.out hm).mono ?_
 rintro e w1 ⟨rfl,hB1,hg1⟩
 have hst:=hB1.state_
 have hz1:=hg1.size
 have HB1:=Lib.hid hB1
 have HG1:=Lib.hid hg1
 clear hB1 hg1
 go_wp2_with (first
  | (refine wpList_load_mid rfl 174 (.tmp 13) rfl b 0 rfl (stc s).toList _ hst Tryz.underlying174 rfl info50 ?_)
  | (refine wpList_store_row rfl 174 (.tmp 4) (.tmp 14) rfl w1.heap.size (stc s) rfl rfl 174 _ (heap_alloc_new _ _) info50 rfl (stc_one s) ?_))
 rw [World.setRow_alloc_new]
 have hB2:HB (w1.alloc (.cells (stc s) 174)) b s rest n 1 0 kv:=HB1.out.alloc _
 have hg2:w.grownBy (w1.alloc (.cells (stc s) 174)) (some b):=only_alloc HG1.out _
 have hs2:Blk (w1.alloc (.cells (stc s) 174)) w1.heap.size 174 (stc s):=heap_alloc_new _ _
 have hz2:(w1.alloc (.cells (stc s) 174)).heap.size=w1.heap.size+1:=by simp
 clear HB1 HG1 hst
 generalize w1.alloc (.cells (stc s) 174)=w2 at *
 obtain ⟨g4,hg4⟩:∃ g4,w1.heap.size=g4:=⟨_,rfl⟩
 rw [hg4] at hs2 hz2 hz1 ⊢
 have HG4:=Lib.hid hg4
 have HB2:=Lib.hid hB2
 have HG2:=Lib.hid hg2
 have HS2:=Lib.hid hs2
 have HZ2:=Lib.hid hz2
 clear hg4 hB2 hg2 hs2 hz2
 go_simp
 go_wp2_with fail
 refine (padded_any b s rest n 1 0 kv _ HB2.out hn).mono ?_
 rintro e w3 ⟨v,rfl,hov,hb3⟩
 go_wp2_with fail
 have hrl:(rest.take (n % 64)).length=n % 64:=by rw [List.length_take,HB2.out.2.1];omega
 obtain ⟨N,hN⟩:=lastOf_length (rest.take (n % 64)) n hrl
 obtain ⟨L,hL⟩:∃ L,lastOf (rest.take (n % 64)) n=L:=⟨_,rfl⟩
 rw [hL] at hN hov
 have hN1:1≤N:=by
  have:(lastOf (rest.take (n % 64)) n).length≥9:=by unfold lastOf;simp [len8_length];omega
  rw [hL] at this
  omega
 have HL:=Lib.hid hL
 clear hL hrl
 obtain ⟨g,c0,hv,hgb,hc0,hcm0,hcell0⟩:∃ g c,v=.slice (some ⟨g,0,none⟩) L.length c∧w2.heap.size≤g∧L.length≤c∧c≤maxLen∧∀ j,j<L.length→w3.cell? ⟨g,0+j,none⟩=some (.int .u8 (bi (L.getD j 0))):=by
  rcases hov.2 with ⟨_,h0⟩ | ⟨g,cap,cur,rfl,hb,hg,hc,hm,hcs,htk⟩
  ·omega
  ·refine ⟨g,cap,rfl,hb,hc,hm,fun j hj=>?_⟩
   rw [cell_of_row _ _ _ _ _ _ hg,Nat.zero_add]
   have:(cur.toList.take (L.length*1))[j]?=(L.map bv)[j]?:=by rw [htk]
   rw [List.getElem?_take,if_pos (by omega),List.getElem?_map,List.getElem?_eq_getElem hj] at this
   rw [List.getD_eq_getElem?_getD,List.getElem?_eq_getElem hj]
   simpa [bv] using this
 subst hv
 have hg4g:g4<g:=by have:=HZ2.out;omega
 have hbg4:b<g4:=by omega
 have hs3:Blk w3 g4 174 (stc s):=HS2.out.below hb3 (by have:=HZ2.out;omega)
 have hB3:HB w3 b s rest n 1 0 kv:=HB2.out.below hb3 (by have:=HZ2.out;omega)
 have hz3:g4+1≤w3.heap.size:=by have:=hb3.size;have:=HZ2.out;omega
 have hg3:w.grownBy w3 (some b):=only_then_below HG2.out hb3
 have HB3:=Lib.hid hB3
 have HG3:=Lib.hid hg3
 have HC0:=Lib.hid hcell0
 have HS3:=Lib.hid hs3
 have HN:=Lib.hid hN
 clear hB3 hg3 hcell0 hs3 hb3 hov HB2 HG2 HS2 hN
 go_loopw [5] (fun v wr=>∃ k o c M:Nat,k≤N∧M=64*(N - k)∧v=.slice (some ⟨g,o,none⟩) M c∧M≤c∧c≤maxLen∧(∀ j,j<M→wr.cell? ⟨g,o+j,none⟩=some (.int .u8 (bi (L.getD (64*k+j) 0))))∧Blk wr g4 174 (stc (blocks s L k))∧w3.grownBy wr (some g4)) (fun v _=>lenOf v)
 case atStart =>
  exact ⟨0,0,c0,L.length,by omega,by rw [HN.out];omega,rfl,hc0,hcm0,fun j hj=>by rw [HC0.out j hj];simp,by rw [blocks_zero];exact HS3.out,World.grownBy.refl _ _⟩
 case round =>
  obtain ⟨k,o,c,M,hk,hM,rfl,hMc,hcm,hcell,hblk,hgr⟩:=hrel
  have HM:=Lib.hid hM
  clear hM
  unfold maxLen at hcm
  by_cases hlt:k<N
  ·have hM64:64≤M:=by have:=HM.out;omega
   obtain ⟨s0,hs0⟩:∃ s0,blocks s L k=s0:=⟨_,rfl⟩
   rw [hs0] at hblk
   obtain ⟨x0,x1,x2,x3,x4,x5,x6,x7⟩:=stc_cell hblk
   obtain ⟨z0,z1,z2,z3,z4,z5,z6,z7⟩:=stc_frozen hblk
   have hj1:(64:Int)≤(M:Int):=by omega
   have hj2:(64:Int)≤(c:Int):=by omega
   have hj3:(0:Int)<(M:Int):=by omega
   have HS0:=Lib.hid hs0
   have HCELL:=Lib.hid hcell
   have HBLK:=Lib.hid hblk
   have HGR:=Lib.hid hgr
   clear hs0 hcell hblk hgr
   have hgw:g<wr.heap.size:=by
    have:=World.block_lt_of_cell? wr _ (HCELL.out 0 (by omega))
    exact this
   have hHBr:HB wr b s rest n 1 0 kv:=HB3.out.grown HGR.out (by simp;omega)
   have hbw:b<wr.heap.size:=hHBr.lt
   have hg4w:g4<wr.heap.size:=HBLK.out.lt
   have F2:=Lib.hid (sub_cells HCELL.out hM64)
   have F4:=Lib.hid (fun j (hj:j<64)=>hHBr.added_ j hj)
   clear hHBr
   go_wp2_with fail
   go_region_with (go_at_call 148;refine (fold_agg s0 ⟨g,o,none⟩ c ((L.drop (64*k)).take 64) b 76 _ (by omega) (by unfold maxLen;omega) (by exact hgw) (by exact F2.out) (by exact hbw) (by exact F4.out)).mono ?_;rintro e w5 ⟨t,HT,rfl,hb5⟩;have y0:=(hb5.cell (p:=⟨g4,0,none⟩) hg4w).trans x0;have y1:=(hb5.cell (p:=⟨g4,1,none⟩) hg4w).trans x1;have y2:=(hb5.cell (p:=⟨g4,2,none⟩) hg4w).trans x2;have y3:=(hb5.cell (p:=⟨g4,3,none⟩) hg4w).trans x3;have y4:=(hb5.cell (p:=⟨g4,4,none⟩) hg4w).trans x4;have y5:=(hb5.cell (p:=⟨g4,5,none⟩) hg4w).trans x5;have y6:=(hb5.cell (p:=⟨g4,6,none⟩) hg4w).trans x6;have y7:=(hb5.cell (p:=⟨g4,7,none⟩) hg4w).trans x7;have q0:=(hb5.frozen (p:=⟨g4,0,none⟩) hg4w).trans z0;have q1:=(hb5.frozen (p:=⟨g4,1,none⟩) hg4w).trans z1;have q2:=(hb5.frozen (p:=⟨g4,2,none⟩) hg4w).trans z2;have q3:=(hb5.frozen (p:=⟨g4,3,none⟩) hg4w).trans z3;have q4:=(hb5.frozen (p:=⟨g4,4,none⟩) hg4w).trans z4;have q5:=(hb5.frozen (p:=⟨g4,5,none⟩) hg4w).trans z5;have q6:=(hb5.frozen (p:=⟨g4,6,none⟩) hg4w).trans z6;have q7:=(hb5.frozen (p:=⟨g4,7,none⟩) hg4w).trans z7)
   have k1:=set8 ((HBLK.out.drew).below hb5 hg4w) t
   have k2:=only8 (only_of_below hb5 (some g4)) (.int .u32 (wi t.a)) (.int .u32 (wi t.b)) (.int .u32 (wi t.c)) (.int .u32 (wi t.d)) (.int .u32 (wi t.e)) (.int .u32 (wi t.f)) (.int .u32 (wi t.g)) (.int .u32 (wi t.h))
   clear y0 y1 y2 y3 y4 y5 y6 y7 q0 q1 q2 q3 q4 q5 q6 q7 x0 x1 x2 x3 x4 x5 x6 x7 z0 z1 z2 z3 z4 z5 z6 z7
   generalize ((((((((w5.setCell ⟨g4,0,none⟩ (.int .u32 (wi t.a))).setCell ⟨g4,1,none⟩ (.int .u32 (wi t.b))).setCell ⟨g4,2,none⟩ (.int .u32 (wi t.c))).setCell ⟨g4,3,none⟩ (.int .u32 (wi t.d))).setCell ⟨g4,4,none⟩ (.int .u32 (wi t.e))).setCell ⟨g4,5,none⟩ (.int .u32 (wi t.f))).setCell ⟨g4,6,none⟩ (.int .u32 (wi t.g))).setCell ⟨g4,7,none⟩ (.int .u32 (wi t.h)))=w8 at *
   have k3:w3.grownBy w8 (some g4):=only_then (only_drew HGR.out) k2
   have k4:∀ j,j<M→w8.cell? ⟨g,o+j,none⟩=some (.int .u8 (bi (L.getD (64*k+j) 0))):=fun j hj =>
    (only_cell k2 (p:=⟨g,o+j,none⟩) hgw (by simp;omega)).trans (HCELL.out j hj)
   have ht:t=blocks s L (k+1):=by rw [HT.out,blocks_next,HS0.out]
   rw [ht] at k1
   have K1:=Lib.hid k1
   have K3:=Lib.hid k3
   have K4:=Lib.hid k4
   clear k1 k2 k3 k4 ht hb5
   by_cases hcc:c=64
   ·have hM':M=64:=by omega
    have hN':N - (k+1)=0:=by have:=HM.out;omega
    subst hcc
    go_wp2_with fail
    go_roundw
    case rel =>
     exact ⟨k+1,o,0,0,by omega,by omega,rfl,by omega,by omega,fun j hj=>by omega,K1.out,K3.out⟩
    case measure=>simp [lenOf];omega
   ·go_wp2_with fail
    go_roundw
    case rel =>
     exact ⟨k+1,o+64,c - 64,M - 64,by omega,by have:=HM.out;omega,rfl,by omega,by unfold maxLen;omega,fun j hj=>by
      have h:=K4.out (64+j) (by omega)
      rw [show o+64+j=o+(64+j) from by omega,h,show 64*k+(64+j)=64*(k+1)+j from by omega],K1.out,K3.out⟩
    case measure=>simp [lenOf];omega
  ·obtain rfl:k=N:=by omega
   have hM0:M=0:=by have:=HM.out;omega
   have HHB:Hid (HB wr b s rest n 1 0 kv):=HB3.out.grown hgr (by simp;omega)
   have HG:Hid (w.grownBy wr (some b)):=only_then_new HG3.out hgr hz1
   have hmk:∀ w:World,(Instr.makeSlice 32 (.int .i64 0) (.int .i64 32)).run Tryz.prog w=.ok (.slice (some ⟨w.heap.size,0,none⟩) 0 32) (w.alloc (.cells (madeCells #[.int .u8 0] 32) 5)):=fun w=>make_bytes 32 (by omega) w
   obtain ⟨T,hT⟩:∃ T,blocks s L k=T:=⟨_,rfl⟩
   rw [hT] at hblk
   have HT:=Lib.hid hT
   have hown:=own_made wr 32 (by unfold maxLen;omega)
   have HOWN:=Lib.hid hown
   have HBLK:=Lib.hid (hblk.alloc (.cells (madeCells #[.int .u8 0] 32) 5))
   have hwz:w.heap.size≤wr.heap.size:=by have:=HG.out.size;omega
   clear hT hown hblk hcell hgr hlt hk
   subst hM0
   go_wp2_with (refine wpList_load_row rfl 174 (.tmp 4) rfl g4 rfl 174 (stc T) (0,0) _ HBLK.out Tryz.underlying174 rfl info50 ?_)
   obtain ⟨wo,rfl⟩:∃ wo:World,wo=wr:=⟨_,rfl⟩
   clear hmk
   go_loopw [6,29] (fun v i wr=>∃ q:Nat,q≤8∧i=.int .i64 q∧Own wr wo.heap.size v ((outB T).take (4*q))∧Below wo.heap.size wo wr) (fun _ i _=>8 - (intOf i).toNat)
   case atStart =>
    exact ⟨0,by omega,rfl,HOWN.out,(Below.refl _ _).alloc (Nat.le_refl _) _⟩
   case round =>
    obtain ⟨q,hq,rfl,ho,hbw⟩:=hrel
    have hsz:wo.heap.size≤wr.heap.size:=hbw.size
    by_cases hlt:q<8
    ·have hidx:=idx8 T q hlt
     have htk:=Lib.hid (outB_take T q hlt)
     obtain ⟨u,hu⟩:∃ u,T.list.getD q 0=u:=⟨_,rfl⟩
     rw [hu] at hidx
     have HU:=Lib.hid hu
     clear hu
     have hsm:((outB T).take (4*q)).length+4≤140737488355328:=by rw [List.length_take,outB_length];omega
     have s1:wi u / 16777216=wi (shrw u 24):=wshr u 24 (by omega)
     have s2:wi u / 65536=wi (shrw u 16):=wshr u 16 (by omega)
     have s3:wi u / 256=wi (shrw u 8):=wshr u 8 (by omega)
     have p1:=wcut (shrw u 24)
     have p2:=wcut (shrw u 16)
     have p3:=wcut (shrw u 8)
     have p4:=wcut u
     have hsz1:wo.heap.size≤(wr.alloc (.cells #[.int .u8 (bi (shrw u 24).toUInt8),.int .u8 (bi (shrw u 16).toUInt8),.int .u8 (bi (shrw u 8).toUInt8),.int .u8 (bi u.toUInt8)] 5)).heap.size:=by simp;omega
     have HOa:=Lib.hid (ho.alloc (.cells #[.int .u8 (bi (shrw u 24).toUInt8),.int .u8 (bi (shrw u 16).toUInt8),.int .u8 (bi (shrw u 8).toUInt8),.int .u8 (bi u.toUInt8)] 5))
     have HRn:=Lib.hid (reads_new wr (be4 u) #[.int .u8 (bi (shrw u 24).toUInt8),.int .u8 (bi (shrw u 16).toUInt8),.int .u8 (bi (shrw u 8).toUInt8),.int .u8 (bi u.toUInt8)] rfl 4 rfl)
     go_wp2_with (at_builtin;refine append_bytes rfl (.tmp 32) (.tmp 44) rfl _ wo.heap.size u6 ((outB T).take (4*q)) rfl HOa.out _ (some ⟨wr.heap.size,0,none⟩) 4 4 (be4 u) rfl HRn.out hsm hsz1 ?_;intro v3 w4 ho3 hb3)
     refine ⟨⟨q+1,by omega,by go_num,?_,(hbw.alloc hsz _).trans hb3⟩,?_⟩
     ·rw [htk.out,HU.out];exact ho3
     ·simp [intOf];omega
    ·obtain rfl:q=8:=by omega
     have ho':Own wr w.heap.size u6 (outB T):=(show Own wr wo.heap.size u6 (outB T) from ho).base hwz
     have HO:=Lib.hid ho'
     have HF:=Lib.hid (only_then_below HG.out hbw)
     have HBF:=Lib.hid (HHB.out.below hbw HHB.out.lt)
     clear ho ho' hbw
     go_wp2
     go_ret
     refine ⟨u6,rfl,?_,HBF.out,HF.out⟩
     rw [HL.out,HN.out,show 64*k / 64=k from by omega,HT.out]
     exact HO.out
end Go.Proofs.YtlkolcokjmlmjaaGreat.Sh
namespace Go.Proofs.YtlkolcokjmlmjaaGreat.Sh
open Go.RowKit
def NewPost (w:World) (e:Ending) (w':World):Prop :=
 ∃ b ad,e=.returned (.pointer (some ⟨b,0,none⟩))∧HB w' b St.first (List.replicate 64 0) 0 0 0 ad∧w.heap.size≤b∧Below w.heap.size w w'
theorem new_cells:Array.foldl (fun (cs:Array Value) (x:Value × Nat)=>cs.setIfInBounds x.snd x.fst) Tryz.zeroCells188 (stc St.first).zipIdx 0 (stc St.first).size=(hcl St.first (List.replicate 64 0) 0 0 0 (List.replicate 64 (.int .u32 0))).toArray:=by kernel_rfl
set_option maxRecDepth 100000 in
set_option maxHeartbeats 800000 in
theorem new_any (w:World):Calls Tryz.prog 119 #[] w (NewPost w):=by
 go_enter Tryz.func119,Tryz.ntmps119
 go_wp2_with fail
 refine (squares_any _).mono ?_
 rintro e w1 ⟨rfl,hb1⟩
 go_wp2_with fail
 rename_i cs heq
 have hcs:stc St.first=cs:=by
  unfold stv at heq
  injection heq
 subst hcs
 go_ret
 refine ⟨w1.heap.size,List.replicate 64 (.int .u32 0),rfl,?_,hb1.size,hb1.alloc hb1.size _⟩
 rw [new_cells]
 exact ⟨heap_alloc_new _ _,by simp,by simp⟩
end Go.Proofs.YtlkolcokjmlmjaaGreat.Sh
namespace Go.Proofs.YtlkolcokjmlmjaaGreat.Sh
open Go.RowKit
theorem blocks_append (s:St) (x y:List UInt8) (k:Nat) (h:64*k≤x.length):blocks s (x++y) k=blocks s x k:=by
 induction k with
 | zero=>rw [blocks_zero,blocks_zero]
 | succ k ih =>
  rw [blocks_next,blocks_next,ih (by omega)]
  congr 1
  rw [List.drop_append_of_le_length (by omega),List.take_append_of_le_length (by rw [List.length_drop];omega)]
theorem full_short (x y:List UInt8) (h:(x++y).length / 64=x.length / 64):full (x++y)=full x:=by
 rw [full_eq,full_eq,h,blocks_append _ _ _ _ (by omega)]
theorem tail64_length (x:List UInt8):(tail64 x).length=x.length % 64:=by
 unfold tail64
 rw [List.length_drop]
 omega
theorem tail64_short (x y:List UInt8) (h:(x++y).length / 64=x.length / 64):tail64 (x++y)=tail64 x++y:=by
 unfold tail64
 rw [h,List.drop_append_of_le_length (by omega)]
theorem full_block (x y:List UInt8) (h:(tail64 x).length+y.length=64):full (x++y)=press (full x) (tail64 x++y):=by
 have hl:=tail64_length x
 have e:(x++y).length / 64=x.length / 64+1:=by rw [List.length_append];omega
 rw [full_eq,e,blocks_next,blocks_append _ _ _ _ (by omega),← full_eq]
 congr 1
 rw [List.drop_append_of_le_length (by omega)]
 show (tail64 x++y).take 64=_
 rw [List.take_of_length_le (by rw [List.length_append];omega)]
theorem tail64_none (x:List UInt8) (h:x.length % 64=0):tail64 x=[]:=by
 apply List.eq_nil_of_length_eq_zero
 rw [tail64_length,h]
section
variable {w w':World} {b:Nat} {s:St} {rest:List UInt8} {n:Nat} {d m:Int} {ad:List Value}
theorem HB.set8 (h : HB w b s rest n d m ad) (t : St) :
  HB ((((((((w.setCell ⟨b,0,none⟩ (.int .u32 (wi t.a))).setCell ⟨b,1,none⟩ (.int .u32 (wi t.b))).setCell ⟨b,2,none⟩ (.int .u32 (wi t.c))).setCell ⟨b,3,none⟩ (.int .u32 (wi t.d))).setCell ⟨b,4,none⟩ (.int .u32 (wi t.e))).setCell ⟨b,5,none⟩ (.int .u32 (wi t.f))).setCell ⟨b,6,none⟩ (.int .u32 (wi t.g))).setCell ⟨b,7,none⟩ (.int .u32 (wi t.h))) b t rest n d m ad :=
 h.setState t
theorem HB.scells (h : HB w b s rest n d m ad) : w.cell? ⟨b, 0, none⟩ = some (.int .u32 (wi s.a)) ∧ w.cell? ⟨b, 1, none⟩ = some (.int .u32 (wi s.b)) ∧ w.cell? ⟨b, 2, none⟩ = some (.int .u32 (wi s.c)) ∧
  w.cell? ⟨b,3,none⟩=some (.int .u32 (wi s.d))∧w.cell? ⟨b,4,none⟩=some (.int .u32 (wi s.e))∧w.cell? ⟨b,5,none⟩=some (.int .u32 (wi s.f))∧w.cell? ⟨b,6,none⟩=some (.int .u32 (wi s.g))∧w.cell? ⟨b,7,none⟩=some (.int .u32 (wi s.h)) :=
 ⟨(h.cell_ 0).trans rfl,(h.cell_ 1).trans rfl,(h.cell_ 2).trans rfl,(h.cell_ 3).trans rfl,(h.cell_ 4).trans rfl,(h.cell_ 5).trans rfl,(h.cell_ 6).trans rfl,(h.cell_ 7).trans rfl⟩
theorem HB.sfrozen (h : HB w b s rest n d m ad) : w.frozen? ⟨b, 0, none⟩ = false ∧ w.frozen? ⟨b, 1, none⟩ = false ∧ w.frozen? ⟨b, 2, none⟩ = false ∧
  w.frozen? ⟨b,3,none⟩=false∧w.frozen? ⟨b,4,none⟩=false∧w.frozen? ⟨b,5,none⟩=false∧w.frozen? ⟨b,6,none⟩=false∧w.frozen? ⟨b,7,none⟩=false :=
 ⟨h.frozen_ 0,h.frozen_ 1,h.frozen_ 2,h.frozen_ 3,h.frozen_ 4,h.frozen_ 5,h.frozen_ 6,h.frozen_ 7⟩
theorem hcl_rest (hr : rest.length = 64) (off : Nat) (cs : List UInt8) (hf : off + cs.length ≤ 64) :
  (hcl s rest n d m ad).take (8+off)++(cs.map bv++(hcl s rest n d m ad).drop (8+off+(cs.map bv).length))=hcl s (splice rest off cs) n d m ad:=by
 unfold hcl splice
 have h8:=stc_length s
 rw [List.take_append,List.take_of_length_le (by omega),h8,show 8+off - 8=off from by omega,List.take_append_of_le_length (by simp [hr];omega)]
 rw [List.drop_append,List.drop_eq_nil_of_le (by omega),h8,List.nil_append,List.length_map,show 8+off+cs.length - 8=off+cs.length from by omega,List.drop_append_of_le_length (by simp [hr];omega)]
 simp [List.map_take,List.map_drop]
theorem HB.setRest (h : HB w b s rest n d m ad) (off : Nat) (cs : List UInt8) (hf : off + cs.length ≤ 64) :
  HB (w.setRow b ((hcl s rest n d m ad).toArray.toList.take (8+off)++(cs.map bv++(hcl s rest n d m ad).toArray.toList.drop (8+off+(cs.map bv).length))).toArray) b s (splice rest off cs) n d m ad:=by
 refine ⟨?_,?_,h.2.2⟩
 ·have:=h.1.row ((hcl s rest n d m ad).take (8+off)++(cs.map bv++(hcl s rest n d m ad).drop (8+off+(cs.map bv).length))).toArray
  rw [hcl_rest h.2.1 off cs hf] at this
  show Blk (w.setRow b ((hcl s rest n d m ad).take (8+off)++(cs.map bv++(hcl s rest n d m ad).drop (8+off+(cs.map bv).length))).toArray) b 188 _
  rw [hcl_rest h.2.1 off cs hf]
  exact this
 ·rw [length_splice _ _ _ (by rw [h.2.1];exact hf)];exact h.2.1
end
theorem only_setRow {a w:World} {g:Nat} (h:a.grownBy w (some g)) (c:Array Value):a.grownBy (w.setRow g c) (some g) :=
 ⟨h.os,h.tape,h.output,by simpa using h.size,fun i hi hne=>(setRow_other w g i c (by intro e;exact hne (by rw [e]))).trans (h.block i hi hne)⟩
def Src (w:World) (b:Nat) (A:Option Addr) (bs:List UInt8):Prop :=
 0<bs.length→∃ ad,A=some ad∧ad.block≠b∧ad.block<w.heap.size∧∀ j,j<bs.length→w.cell? (ad.add j)=some (.int .u8 (bi (bs.getD j 0)))
theorem Src.only {w w':World} {b:Nat} {A:Option Addr} {bs:List UInt8} (h:Src w b A bs) (hg:w.grownBy w' (some b)):Src w' b A bs:=by
 intro h0
 obtain ⟨ad,hA,hne,hlt,hc⟩:=h h0
 refine ⟨ad,hA,hne,Nat.lt_of_lt_of_le hlt hg.size,fun j hj=>?_⟩
 rw [only_cell hg (by rw [block_of_add];exact hlt) (by rw [block_of_add];exact hne)]
 exact hc j hj
theorem Src.cut {w:World} {b:Nat} {A:Option Addr} {bs:List UInt8} (h:Src w b A bs) (k:Nat) (A':Option Addr) (hA:k<bs.length→∀ ad,A=some ad→A'=some (ad.add k)):Src w b A' (bs.drop k):=by
 intro h0
 rw [List.length_drop] at h0
 obtain ⟨ad,rfl,hne,hlt,hc⟩:=h (by omega)
 refine ⟨ad.add k,hA (by omega) ad rfl,by rw [block_of_add];exact hne,by rw [block_of_add];exact hlt,fun j hj=>?_⟩
 rw [List.length_drop] at hj
 rw [add_of_add,hc (k+j) (by omega)]
 simp only [List.getD_eq_getElem?_getD,List.getElem?_drop]
theorem info5s:(Tryz.prog.info? 5).map (·.size)=some 1:=by kernel_rfl
theorem copy_rest {ops : Array Oper} {ro : List Oper} {o : Oper} {a : Act} {w : World} {Q : Exit → Act → World → Prop} (hgd : o.guard = none) (dd ss : Operand)
  (ho:o.op=.call { callee:=.builtin .copy,args:=#[dd,ss],argTypes:=#[32,32] }) (b:Nat) (s:St) (rest:List UInt8) (n:Nat) (d m:Int) (ad:List Value) (h:HB w b s rest n d m ad)
  (off dLen dCap:Nat) (hd:a.eval dd=.slice (some ⟨b,8+off,none⟩) dLen dCap) (A:Option Addr) (sLen sCap:Nat) (bs:List UInt8) (hl:bs.length=sLen) (hs:a.eval ss=.slice A sLen sCap) (hsrc:Src w b A bs)
  (k:Nat) (hk:k=Nat.min sLen dLen) (hf:off+k≤64)
  (hK:∀ w',HB w' b s (splice rest off (bs.take k)) n d m ad→w.grownBy w' (some b)→wpList Tryz.prog ops Q ro (a.put o.dst (.int .i64 (k:Int))) w'):wpList Tryz.prog ops Q (o::ro) a w:=by
 have hkl:k≤bs.length:=by rw [hk,hl];exact Nat.min_le_left _ _
 by_cases h0:k=0
 ·subst h0
  refine wpList_copy_nothing hgd dd ss 32 32 ho 5 Tryz.underlying32 info5s _ _ dLen dCap sLen sCap hd hs hk.symm ?_
  refine hK w ?_ (World.grownBy.refl w _)
  have:splice rest off (bs.take 0)=rest:=by simp [splice]
  rw [this]
  exact h
 ·obtain ⟨adr,rfl,hne,hlt,hc⟩:=hsrc (by omega)
  refine wpList_copy_own hgd dd ss 32 32 ho 5 Tryz.underlying32 info5s b (8+off) dLen dCap adr sLen sCap hd hs (hcl s rest n d m ad).toArray 188 h.1 ((bs.take k).map bv) (by simp [hk,hl]) ?_ ?_ (bv_one _) ?_
  ·intro j v hv
   have hj:j<k:=by
    have:=(List.getElem?_eq_some_iff.1 hv).1
    simp at this
    omega
   rw [hc j (by omega),← hv,List.getElem?_map,List.getElem?_take,if_pos hj,List.getElem?_eq_getElem (by omega),List.getD_eq_getElem?_getD,List.getElem?_eq_getElem (by omega)]
   rfl
  ·simp [hcl_length h.2.1 h.2.2]
   omega
  ·have hb:=hK _ (h.setRest off (bs.take k) (by rw [List.length_take];omega)) (only_setRow (World.grownBy.refl w _) _)
   have hg:goInt ((bs.take k).map bv).length=.int .i64 (k:Int):=by
    rw [List.length_map,List.length_take,Nat.min_eq_left hkl];rfl
   rw [hg]
   exact hb
end Go.Proofs.YtlkolcokjmlmjaaGreat.Sh
namespace Go.Proofs.YtlkolcokjmlmjaaGreat.Sh
open Go.RowKit
def HH (w:World) (b:Nat) (all:List UInt8):Prop :=
 ∃ s rest d ad,HB w b s rest all.length d 0 ad∧Made d ad∧s=full all∧rest.take (all.length % 64)=tail64 all
set_option maxRecDepth 100000 in
set_option maxHeartbeats 800000 in
theorem write_zero (b : Nat) (all bs : List UInt8) (A : Option Addr) (cap : Nat) (w : World) (h : HH w b all) (hs : Src w b A bs) (hlc : bs.length ≤ cap) (hcm : cap ≤ maxLen) (hn : all.length + bs.length < 2 ^ 60) (h0 : all.length % 64 = 0) :
  Calls Tryz.prog 120 #[.pointer (some ⟨b,0,none⟩),.slice A bs.length cap] w fun e w'=>e=.returned (.tuple #[])∧HH w' b (all++bs)∧w.grownBy w' (some b):=by
 unfold maxLen at hcm
 obtain ⟨s,rest,d,ad,hB,hm,hst,hta⟩:=h
 have hbl:=hB.lt
 obtain ⟨n,hN⟩:∃ n,all.length=n:=⟨_,rfl⟩
 obtain ⟨l,hL⟩:∃ l,bs.length=l:=⟨_,rfl⟩
 rw [hN] at hB h0 hta hn
 rw [hL] at hlc hn ⊢
 have HST:=Lib.hid hst
 have HTA:=Lib.hid hta
 have HB0:=Lib.hid hB
 have HNE:=Lib.hid hN
 have HLE:=Lib.hid hL
 have HS:=Lib.hid hs
 clear hst hta hB hN hL hs
 have e1:(n:Int).tmod 64=0:=by rw [Int.tmod_eq_emod_of_nonneg (by omega)];omega
 have e2:(n:Int) % 64=0:=by omega
 have H0:=Lib.hid h0
 clear h0
 go_enter Tryz.func120,Tryz.ntmps120
 go_wp2_with fail
 refine (constants_any b s rest n d ad _ HB0.out hm).mono ?_
 rintro e w1 ⟨rfl,hB1,hg1⟩
 have hsz:=hB1.size_
 have hfz:=hB1.frozen_ 72
 have HB1:=Lib.hid hB1
 have HG1:=Lib.hid hg1
 clear hB1 hg1
 go_wp2_with fail
 have hB2:HB (w1.setCell ⟨b,72,none⟩ (.int .i64 ((n:Int)+(l:Int)))) b s rest (n+l) 1 0 kv:=HB1.out.setSize (n+l)
 have hg2:w.grownBy (w1.setCell ⟨b,72,none⟩ (.int .i64 ((n:Int)+(l:Int)))) (some b):=only_setCell HG1.out (.inl rfl) _
 clear hsz hfz
 generalize w1.setCell ⟨b,72,none⟩ (.int .i64 ((n:Int)+(l:Int)))=w2 at *
 have hS2:Src w2 b A bs:=HS.out.only hg2
 have HB2:=Lib.hid hB2
 have HG2:=Lib.hid hg2
 have HS2:=Lib.hid hS2
 clear hB2 hg2 hS2
 go_loopw [1] (fun v wr=>∃ (P R X:List UInt8) (A1:Option Addr) (c:Nat),v=.slice A1 R.length c∧R.length≤c∧c≤cap∧P++R=all++bs∧P.length % 64=0∧HB wr b (full P) X (n+l) 1 0 kv∧Src wr b A1 R∧w.grownBy wr (some b)) (fun v _=>lenOf v)
 case atStart =>
  exact ⟨all,bs,rest,A,cap,by rw [HLE.out],by rw [HLE.out];exact hlc,by omega,rfl,by rw [HNE.out];exact H0.out,by rw [← HST.out];exact HB2.out,HS2.out,HG2.out⟩
 case round =>
  obtain ⟨P,R,X,A1,c,rfl,hRc,hccap,hPR,hP,hHB,hSrc,hG⟩:=hrel
  obtain ⟨M,hM⟩:∃ M,R.length=M:=⟨_,rfl⟩
  rw [hM] at hRc ⊢
  have HM:=Lib.hid hM
  have HPR:=Lib.hid hPR
  have HP:=Lib.hid hP
  have HHBr:=Lib.hid hHB
  have HG:=Lib.hid hG
  have HSr:=Lib.hid hSrc
  clear hM hPR hP hG hSrc
  by_cases hlt:64≤M
  ·obtain ⟨adr,rfl,hne,hltb,hcell⟩:=HSr.out (by rw [HM.out];omega)
   obtain ⟨x0,x1,x2,x3,x4,x5,x6,x7⟩:=hHB.scells
   obtain ⟨z0,z1,z2,z3,z4,z5,z6,z7⟩:=hHB.sfrozen
   have hbw:b<wr.heap.size:=hHB.lt
   have F4:=Lib.hid (fun j (hj:j<64)=>hHB.added_ j hj)
   have F2:=Lib.hid (show ∀ i,i<64→wr.cell? (adr.add i)=some (.int .u8 (bi ((R.take 64).getD i 0))) from fun i hi=>by
    rw [hcell i (by rw [HM.out];omega)]
    simp only [List.getD_eq_getElem?_getD,List.getElem?_take,if_pos hi])
   obtain ⟨s0,hs0⟩:∃ s0,full P=s0:=⟨_,rfl⟩
   rw [hs0] at x0 x1 x2 x3 x4 x5 x6 x7
   have HS0:=Lib.hid hs0
   clear hHB hcell hs0
   have hj1:(64:Int)≤(M:Int):=by omega
   have hj2:(64:Int)≤(c:Int):=by omega
   go_wp2_with fail
   go_region_with (go_at_call 148;refine (fold_agg s0 adr c (R.take 64) b 76 _ (by omega) (by unfold maxLen;omega) (by exact hltb) (by exact F2.out) (by exact hbw) (by exact F4.out)).mono ?_;rintro e w5 ⟨t,HT,rfl,hb5⟩;have y0:=(hb5.cell (p:=⟨b,0,none⟩) hbw).trans x0;have y1:=(hb5.cell (p:=⟨b,1,none⟩) hbw).trans x1;have y2:=(hb5.cell (p:=⟨b,2,none⟩) hbw).trans x2;have y3:=(hb5.cell (p:=⟨b,3,none⟩) hbw).trans x3;have y4:=(hb5.cell (p:=⟨b,4,none⟩) hbw).trans x4;have y5:=(hb5.cell (p:=⟨b,5,none⟩) hbw).trans x5;have y6:=(hb5.cell (p:=⟨b,6,none⟩) hbw).trans x6;have y7:=(hb5.cell (p:=⟨b,7,none⟩) hbw).trans x7;have q0:=(hb5.frozen (p:=⟨b,0,none⟩) hbw).trans z0;have q1:=(hb5.frozen (p:=⟨b,1,none⟩) hbw).trans z1;have q2:=(hb5.frozen (p:=⟨b,2,none⟩) hbw).trans z2;have q3:=(hb5.frozen (p:=⟨b,3,none⟩) hbw).trans z3;have q4:=(hb5.frozen (p:=⟨b,4,none⟩) hbw).trans z4;have q5:=(hb5.frozen (p:=⟨b,5,none⟩) hbw).trans z5;have q6:=(hb5.frozen (p:=⟨b,6,none⟩) hbw).trans z6;have q7:=(hb5.frozen (p:=⟨b,7,none⟩) hbw).trans z7)
   have k1:=((HHBr.out.drew).below hb5 hbw).set8 t
   have k2:=only8 (only_of_below hb5 (some b)) (.int .u32 (wi t.a)) (.int .u32 (wi t.b)) (.int .u32 (wi t.c)) (.int .u32 (wi t.d)) (.int .u32 (wi t.e)) (.int .u32 (wi t.f)) (.int .u32 (wi t.g)) (.int .u32 (wi t.h))
   clear y0 y1 y2 y3 y4 y5 y6 y7 q0 q1 q2 q3 q4 q5 q6 q7 x0 x1 x2 x3 x4 x5 x6 x7 z0 z1 z2 z3 z4 z5 z6 z7
   generalize ((((((((w5.setCell ⟨b,0,none⟩ (.int .u32 (wi t.a))).setCell ⟨b,1,none⟩ (.int .u32 (wi t.b))).setCell ⟨b,2,none⟩ (.int .u32 (wi t.c))).setCell ⟨b,3,none⟩ (.int .u32 (wi t.d))).setCell ⟨b,4,none⟩ (.int .u32 (wi t.e))).setCell ⟨b,5,none⟩ (.int .u32 (wi t.f))).setCell ⟨b,6,none⟩ (.int .u32 (wi t.g))).setCell ⟨b,7,none⟩ (.int .u32 (wi t.h)))=w8 at *
   have ht:t=full (P++R.take 64):=by
    have hpl:=tail64_none P HP.out
    rw [full_block P (R.take 64) (by rw [hpl,List.length_take,HM.out];simp;omega),hpl,HT.out,HS0.out]
    rfl
   rw [ht] at k1
   have k3:P++R.take 64++R.drop 64=all++bs:=by rw [List.append_assoc,List.take_append_drop];exact HPR.out
   have k4:(P++R.take 64).length % 64=0:=by rw [List.length_append,List.length_take,HM.out];have:=HP.out;omega
   have k5:Src w8 b (some adr) R:=HSr.out.only (only_then (only_drew (World.grownBy.refl wr _)) k2)
   have k6:w.grownBy w8 (some b):=only_then HG.out (only_then (only_drew (World.grownBy.refl wr _)) k2)
   have k7:(R.drop 64).length=M - 64:=by rw [List.length_drop,HM.out]
   have K1:=Lib.hid k1
   have K3:=Lib.hid k3
   have K4:=Lib.hid k4
   have K5:=Lib.hid k5
   have K6:=Lib.hid k6
   have K7:=Lib.hid k7
   clear k1 k2 k3 k4 k5 k6 k7 ht hb5
   by_cases hcc:c=64
   ·have hM':M=64:=by omega
    subst hcc
    go_wp2_with fail
    go_roundw
    case rel =>
     exact ⟨P++R.take 64,R.drop 64,X,some adr,0,by rw [K7.out,hM'],by rw [K7.out];omega,by omega,K3.out,K4.out,K1.out,fun h=>absurd h (by rw [K7.out];omega),K6.out⟩
    case measure=>simp [lenOf];omega
   ·go_wp2_with fail
    go_roundw
    case rel =>
     exact ⟨P++R.take 64,R.drop 64,X,some (adr.add 64),c - 64,by rw [K7.out,add_at _ _ (by omega)],by rw [K7.out];omega,by omega,K3.out,K4.out,K1.out,K5.out.cut 64 _ (fun _ a e=>by injection e with e;rw [e]),K6.out⟩
    case measure=>simp [lenOf];omega
  ·have hHB':=Lib.hid hHB
   clear hHB
   have hMM:M=Nat.min M 64:=(Nat.min_eq_left (a:=M) (b:=64) (by omega)).symm
   have HMM:=Lib.hid hMM
   clear hMM
   have hM0:0+M≤64:=by omega
   go_wp2_with (refine copy_rest rfl (.tmp 71) (.tmp 72) rfl b (full P) X (n+l) 1 0 kv hHB'.out 0 64 64 rfl A1 M c R HM.out rfl HSr.out M HMM.out hM0 ?_;intro w6 hB6 hg6)
   go_end0
   have hPl:=HP.out
   have hlen:(P++R).length=n+l:=by rw [HPR.out,List.length_append,HNE.out,HLE.out]
   have hlen2:P.length+M=n+l:=by rw [← hlen,List.length_append,HM.out]
   have hsh:(P++R).length / 64=P.length / 64:=by rw [hlen];omega
   refine ⟨rfl,⟨full P,splice X 0 (R.take M),1,kv,?_,.inr ⟨rfl,rfl⟩,?_,?_⟩,only_then HG.out hg6⟩
   ·rw [← HPR.out,hlen];exact hB6
   ·rw [← HPR.out,full_short _ _ hsh]
   ·rw [← HPR.out,hlen,tail64_short _ _ hsh,tail64_none _ hPl,show (n+l) % 64=M from by omega]
    unfold splice
    rw [List.take_of_length_le (l:=R) (by rw [HM.out];omega),List.take_zero,List.nil_append,List.nil_append,List.take_append_of_le_length (by rw [HM.out];omega),List.take_of_length_le (by rw [HM.out];omega)]
set_option maxRecDepth 100000 in
set_option maxHeartbeats 800000 in
theorem write_few (b : Nat) (all bs : List UInt8) (A : Option Addr) (cap : Nat) (w : World) (h : HH w b all) (hs : Src w b A bs) (hlc : bs.length ≤ cap) (hcm : cap ≤ maxLen) (hn : all.length + bs.length < 2 ^ 60) (h0 : 0 < all.length % 64) (h1 : all.length % 64 + bs.length < 64) :
  Calls Tryz.prog 120 #[.pointer (some ⟨b,0,none⟩),.slice A bs.length cap] w fun e w'=>e=.returned (.tuple #[])∧HH w' b (all++bs)∧w.grownBy w' (some b):=by
 unfold maxLen at hcm
 obtain ⟨s,rest,d,ad,hB,hm,hst,hta⟩:=h
 have hbl:=hB.lt
 obtain ⟨n,hN⟩:∃ n,all.length=n:=⟨_,rfl⟩
 obtain ⟨l,hL⟩:∃ l,bs.length=l:=⟨_,rfl⟩
 rw [hN] at hB h0 hta hn h1
 rw [hL] at hlc hn h1 ⊢
 have HST:=Lib.hid hst
 have HTA:=Lib.hid hta
 have HB0:=Lib.hid hB
 have HNE:=Lib.hid hN
 have HLE:=Lib.hid hL
 have HS:=Lib.hid hs
 clear hst hta hB hN hL hs
 obtain ⟨r,hr⟩:∃ r,n % 64=r:=⟨_,rfl⟩
 rw [hr] at h0 h1
 have HR:=Lib.hid hr
 have hr64:r<64:=by omega
 have e1:(n:Int).tmod 64=(r:Int):=by rw [Int.tmod_eq_emod_of_nonneg (by omega)];omega
 have e2:(n:Int) % 64=(r:Int):=by omega
 have e3:(0:Int)<(r:Int):=by omega
 have e4:(r:Int)≤64:=by omega
 have hrest:rest.length=64:=HB0.out.2.1
 clear hr
 have e5:(r:Int)+(l:Int)<64:=by omega
 have hk:l=Nat.min l (64 - r):=(Nat.min_eq_left (a:=l) (b:=64 - r) (by omega)).symm
 have HKK:=Lib.hid hk
 clear hk
 have hf:r+l≤64:=by omega
 go_enter Tryz.func120,Tryz.ntmps120
 go_wp2_with fail
 refine (constants_any b s rest n d ad _ HB0.out hm).mono ?_
 rintro e w1 ⟨rfl,hB1,hg1⟩
 have hsz:=hB1.size_
 have hfz:=hB1.frozen_ 72
 have HB1:=Lib.hid hB1
 have HG1:=Lib.hid hg1
 clear hB1 hg1
 have hB2:HB (w1.setCell ⟨b,72,none⟩ (.int .i64 ((n:Int)+(l:Int)))) b s rest (n+l) 1 0 kv:=HB1.out.setSize (n+l)
 have hg2:w.grownBy (w1.setCell ⟨b,72,none⟩ (.int .i64 ((n:Int)+(l:Int)))) (some b):=only_setCell HG1.out (.inl rfl) _
 have hS2:Src (w1.setCell ⟨b,72,none⟩ (.int .i64 ((n:Int)+(l:Int)))) b A bs:=HS.out.only hg2
 have HB2:=Lib.hid hB2
 have HG2:=Lib.hid hg2
 have HS2:=Lib.hid hS2
 clear hB2 hg2 hS2
 go_wp2_with (refine copy_rest rfl (.tmp 29) (.tmp 30) rfl b s rest (n+l) 1 0 kv HB2.out r (64 - r) (64 - r) rfl A l cap bs HLE.out rfl HS2.out l HKK.out hf ?_;intro w6 hB6 hg6)
 first | go_end0 | (simp only [Exit.inBlock,Exit.then];refine bodyPost_ret (results_none rfl _ _ _) rfl ?_) | refine bodyPost_ret (results_none rfl _ _ _) rfl ?_
 have hlen:(all++bs).length=n+l:=by rw [List.length_append,HNE.out,HLE.out]
 have hsh:(all++bs).length / 64=all.length / 64:=by rw [hlen,HNE.out];have:=HR.out;omega
 refine ⟨rfl,⟨s,splice rest r (bs.take l),1,kv,?_,.inr ⟨rfl,rfl⟩,?_,?_⟩,only_then HG2.out hg6⟩
 ·rw [hlen];exact hB6
 ·rw [full_short _ _ hsh];exact HST.out
 ·rw [hlen,tail64_short _ _ hsh,← HTA.out,HR.out,show (n+l) % 64=r+l from by have:=HR.out;omega]
  unfold splice
  rw [List.take_of_length_le (l:=bs) (by rw [HLE.out];omega),← List.append_assoc,List.take_append_of_le_length (by rw [List.length_append,List.length_take,HLE.out];omega),List.take_of_length_le (by rw [List.length_append,List.length_take,HLE.out];omega)]
end Go.Proofs.YtlkolcokjmlmjaaGreat.Sh
