/- Texts put together: VFx6, VFx7, VFx8, VFx9. -/
import Derived.Test.YtlkolcokjmlmjaaGreatQv07
import Derived.Test.YtlkolcokjmlmjaaGreatQv03
namespace Go.Proofs.YtlkolcokjmlmjaaGreat.Tx
open Go.RowKit Go.Proofs.YtlkolcokjmlmjaaGreat.Sh
def opOf (st:FSM) (o:OpM):OpM:=if o.kind=1 then { o with f:={ o.f with time:=st.time+1 } } else o
theorem opOf_yes {st:FSM} {o:OpM} (h:o.kind=1):opOf st o={ o with f:={ o.f with time:=st.time+1 } }:=by unfold opOf;rw [if_pos h]
theorem opOf_no {st:FSM} {o:OpM} (h:o.kind≠1):opOf st o=o:=by unfold opOf;rw [if_neg h]
theorem change_fin {F:Nat→Prop} {w wo wc wl w5:World} {b:Nat} {st:FSM} {x:FsV} {M:Nat→Prop} {t:Int} {v' v5:Value} {now':List RowM} {p':List OpM} (hX:RefX F w b st x) (hM:∀ k,M k↔fsM b x k)
  (hOP:Only (fun k=>k=b) w wc) (hwo:w.heap.size≤wo.heap.size) (hnow:RowsIn (fun k=>F k∨(wo.heap.size≤k∧k<wc.heap.size)) wc v' now') (hblk:Blk w5 b 73 (fsC { st with time:=t } { x with now:=v' }))
  (hl:Below wc.heap.size wc wl) (hg:wl.grownBy w5 x.pending.ownBlock) (hown:OwnL opK 136 F w5 0 v5 p') (hk:v5.ownBlock=x.pending.ownBlock∨v5.ownBlock=some wl.heap.size) :
  FsPost F M w b { st with time:=t,now:=now',pending:=p' } (w5.setCell ⟨b,3,none⟩ v5):=by
 have hz1:=hOP.size
 have hz2:=hl.size
 have hz3:=hg.size
 have hbw:b<w.heap.size:=hX.blk.lt
 have hpw:∀ k,x.pending.ownBlock=some k→k<w.heap.size:=fun k hk=>(hX.pending.lt k hk).2
 have huw:∀ k,x.user.ownBlock=some k→k<w.heap.size:=fun k hk=>(hX.user.lt k hk).2
 have hwz:(w5.setCell ⟨b,3,none⟩ v5).heap.size=w5.heap.size:=by simp [World.setCell]
 have o5:Only (fun k=>x.pending.ownBlock=some k) wc w5:=(Only.of_below hl).trans (M':=fun k=>x.pending.ownBlock=some k) ⟨hg.os,hg.tape,hg.output,hg.size,fun k hk hn=>hg.block k hk (fun e=>hn e.symm)⟩ (fun k hk=>.inl hk)
 have of:Only (fun k=>k=b∨x.pending.ownBlock=some k) wc (w5.setCell ⟨b,3,none⟩ v5):=Only.set_ (M:=fun k=>k=b∨x.pending.ownBlock=some k) (g:=b) (i:=3) (o5.more (fun k _ h=>.inr h)) (.inl (.inl rfl)) v5
 have ow:Only (fun k=>k=b∨x.pending.ownBlock=some k) w (w5.setCell ⟨b,3,none⟩ v5):=(hOP.more (M':=fun k=>k=b∨x.pending.ownBlock=some k) (fun k _ h=>.inl h)).trans of (fun k hk=>.inl hk)
 have hdF:∀ k,F k→¬ (k=b∨x.pending.ownBlock=some k):=fun k hf h=>hX.apart k hf (h.imp id .inl)
 have hM':∀ k,fsM b { x with now:=v',pending:=v5 } k→fsM b x k∨wc.heap.size≤k:=fun k h=>by
  rcases h with h | h | h
  ·exact .inl (.inl h)
  ·rcases hk with e | e
   ·exact .inl (.inr (.inl (by rw [← e];exact h)))
   ·right
    have h':v5.ownBlock=some k:=h
    rw [e] at h'
    injection h' with h'
    omega
  ·exact .inl (.inr (.inr h))
 have hMlt:∀ k,fsM b x k→k<w.heap.size:=hX.lt
 have hgF:∀ k,F k→grow F w (w5.setCell ⟨b,3,none⟩ v5) (fsM b { x with now:=v',pending:=v5 }) k:=fun k h=>.inl h
 have hgN:∀ k,w.heap.size≤k→k<wc.heap.size→grow F w (w5.setCell ⟨b,3,none⟩ v5) (fsM b { x with now:=v',pending:=v5 }) k:=fun k h1 h2=>.inr ⟨h1,by rw [hwz];omega,fun hm=>by
  rcases hM' k hm with h | h
  ·have:=hMlt k h;omega
  ·omega⟩
 have hv5b:∀ k,v5.ownBlock=some k→¬ (k=b):=fun k hk e=>by
  obtain ⟨⟨ds,h1,_⟩,_⟩:=hown
  exact own_blk_ne h1 hblk (by decide) (by rw [hk,e])
 refine ⟨fsM b { x with now:=v',pending:=v5 },⟨{ x with now:=v',pending:=v5 },⟨hblk.set_ 3 v5,?_,?_,?_,?_,?_,?_,?_⟩,fun k=>Iff.rfl⟩,ow.more (fun k _ h=>(hM k).2 (h.imp id .inl)),fun k h=>?_⟩
 ·refine (hnow.only of (fun k hf h=>?_)).mono (fun k _ hf=>?_)
  ·rcases hf with hf | hf
   ·exact hdF k hf h
   ·rcases h with rfl | h
    ·omega
    ·have:=hpw k h;omega
  ·rcases hf with hf | hf
   ·exact hgF k hf
   ·exact hgN k (by omega) hf.2
 ·exact (hX.sure.only ow hdF).mono (fun k _=>hgF k)
 ·refine (hown.only (M:=fun k=>k=b) (Only.set_ (M:=fun k=>k=b) (g:=b) (i:=3) (Only.refl _ w5) (.inl rfl) v5) (fun k hf e=>hX.self (by rw [← e];exact hf)) hv5b).mono (fun k _=>hgF k) (fun k hk hg=>?_)
  rcases hg with hf | ⟨_,_,hn⟩
  ·exact hown.2 k hk hf
  ·exact hn (.inr (.inl hk))
 ·exact (hX.plan.only ow hdF).mono (fun k _=>hgF k)
 ·refine (hX.user.only ow hdF (fun k hk h=>?_)).mono (fun k _=>hgF k) (fun k hk hg=>?_)
  ·rcases h with h | h
   ·exact hX.u_ne (by rw [hk,h])
   ·exact hX.pu_ne k h hk
  ·rcases hg with hf | ⟨_,_,hn⟩
   ·exact hX.user.2 k hk hf
   ·exact hn (.inr (.inr hk))
 ·rintro (h | ⟨_,_,h⟩)
  ·exact hX.self h
  ·exact h (.inl rfl)
 ·rintro k (h | ⟨_,h,_⟩)
  ·have:=hX.low k h;rw [hwz];omega
  ·exact h
 ·rcases hM' k h with h | h
  ·exact .inl ((hM k).2 h)
  ·right;omega
set_option maxRecDepth 100000 in
set_option maxHeartbeats 3200000 in
theorem rchange_any (F M:Nat→Prop) (b:Nat) (st:FSM) (o:OpM) (d:Value) (w:World) (h:RefAt F w b st M) (hd:By F w d o.f.data) (ht:0≤st.time∧st.time≤4000000000000) (hn:st.now.length≤1000000) (hp:st.pending.length≤1000000) :
  Calls Tryz.prog 130 #[.pointer (some ⟨b,0,none⟩),.agg #[.int .i64 o.kind,.string (str o.fr),.string (str o.to),.int .i64 o.f.mode,d,.int .i64 o.f.time]] w fun e w'=>e=.returned (.tuple #[])∧FsPost F M w b (changeM st o) w':=by
 obtain ⟨x,hX,hM⟩:=h
 have hone:=hd.one
 obtain ⟨dA,dc,rfl,_,_⟩:=hd.slice
 obtain ⟨wb,hwb⟩:∃ wb,wb=w.alloc (.cells #[.int .i64 o.kind,.string (str o.fr),.string (str o.to),.int .i64 o.f.mode,.slice dA o.f.data.length dc,.int .i64 o.f.time] 136):=⟨_,rfl⟩
 have hB:Below w.heap.size w wb:=by rw [hwb];exact (Below.refl _ _).alloc (Nat.le_refl _) _
 have hbox:Blk wb w.heap.size 136 #[.int .i64 o.kind,.string (str o.fr),.string (str o.to),.int .i64 o.f.mode,.slice dA o.f.data.length dc,.int .i64 o.f.time]:=by rw [hwb];exact Blk.new _ _ _
 have hblt:=hX.blk.lt
 have hne:w.heap.size≠b:=by omega
 have hblk:Blk wb b 73 (fsC st x):=(hX.below hB).blk
 obtain ⟨t,hT⟩:∃ t,st.time=t:=⟨_,rfl⟩
 rw [hT] at ht
 obtain ⟨t0,t1⟩:=ht
 have f6:wb.cell? ⟨b,6,none⟩=some (.int .i64 t):=by rw [← hT];exact hblk.cell 6
 have z6:wb.frozen? ⟨b,6,none⟩=false:=hblk.frozen 6
 have HX:=Lib.hid hX
 have HMM:=Lib.hid hM
 have HD:=Lib.hid hd
 have HB:=Lib.hid hB
 have HBOX:=Lib.hid hbox
 have HBLK:=Lib.hid hblk
 have HT:=Lib.hid hT
 have HN:=Lib.hid hn
 have HP:=Lib.hid hp
 have hwz:=hB.size
 clear hX hM hd hB hbox hblk hT hn hp
 go_enter Tryz.func130,Tryz.ntmps130
 go_upto_region 1 with (fail)
 rw [← hwb]
 clear hwb
 go_upto_region 2 with (fail)
 have hw1:Blk (wb.setCell ⟨b,6,none⟩ (.int .i64 (t+1))) b 73 (fsC { st with time:=t+1 } x):=HBLK.out.set_ 6 _
 have hbox1:Blk (wb.setCell ⟨b,6,none⟩ (.int .i64 (t+1))) w.heap.size 136 #[.int .i64 o.kind,.string (str o.fr),.string (str o.to),.int .i64 o.f.mode,.slice dA o.f.data.length dc,.int .i64 o.f.time]:=HBOX.out.far hne _
 have ho1:Only (fun k=>k=b) w (wb.setCell ⟨b,6,none⟩ (.int .i64 (t+1))):=Only.set_ (M:=fun k=>k=b) (g:=b) (i:=6) (Only.of_below HB.out) (.inl rfl) _
 generalize wb.setCell ⟨b,6,none⟩ (.int .i64 (t+1))=w1 at *
 have HW1:=Lib.hid hw1
 have HBOX1:=Lib.hid hbox1
 have HO1:=Lib.hid ho1
 have k0:w1.cell? ⟨w.heap.size,0,none⟩=some (.int .i64 o.kind):=hbox1.cell 0
 have k6:w1.cell? ⟨b,6,none⟩=some (.int .i64 (t+1)):=hw1.cell 6
 have k5:(w1.cell? ⟨w.heap.size,5,none⟩).isSome=true∧w1.frozen? ⟨w.heap.size,5,none⟩=false:=⟨by rw [hbox1.cell 5];rfl,hbox1.frozen 5⟩
 have k5c:w1.cell? ⟨w.heap.size,5,none⟩=some (.int .i64 o.f.time):=hbox1.cell 5
 have k5f:=k5.2
 obtain ⟨q,hq⟩:∃ q,o.kind=q:=⟨_,rfl⟩
 rw [hq] at k0
 have HQ:=Lib.hid hq
 clear hw1 hbox1 ho1 f6 z6 HBOX HBLK HB k5 hq
 obtain ⟨o',ho'⟩:∃ o',opOf st o=o':=⟨_,rfl⟩
 go_upto_if 13 with (fail)
 go_cut [] (fun wx=>Blk wx w.heap.size 136 #[.int .i64 o'.kind,.string (str o'.fr),.string (str o'.to),.int .i64 o'.f.mode,.slice dA o'.f.data.length dc,.int .i64 o'.f.time]∧o'.f.data=o.f.data∧Blk wx b 73 (fsC { st with time:=t+1 } x)∧Only (fun k=>k=b) w wx)
 case first =>
  by_cases h1:q=1
  ·subst h1
   have ho2:=opOf_yes (st:=st) HQ.out
   rw [HT.out] at ho2
   rw [ho'] at ho2
   have HO2:=Lib.hid ho2
   clear ho2 ho'
   go_wp2_with fail
   go_meet
   rw [HO2.out]
   refine ⟨?_,rfl,HW1.out.far (fun e=>hne e.symm) _,Only.set_ (M:=fun k=>k=b) (g:=w.heap.size) (i:=5) HO1.out (.inr (Nat.le_refl _)) _⟩
   exact HBOX1.out.set_ 5 _
  ·have e1:(q==1)=false:=by rw [beq_eq_false_iff_ne];exact h1
   have ho2:=opOf_no (st:=st) (o:=o) (by rw [HQ.out];exact h1)
   rw [ho'] at ho2
   have HO2:=Lib.hid ho2
   clear ho2 ho' h1
   go_wp2_with fail
   go_meet
   rw [HO2.out]
   exact ⟨HBOX1.out,rfl,HW1.out,HO1.out⟩
 case rest =>
  obtain ⟨wo,hwo⟩:∃ wo,wo=wc:=⟨_,rfl⟩
  subst hwo
  obtain ⟨hbox,hdat,hblk,ho⟩:=hcut
  have hFb:∀ k,F k→¬ (k=b):=fun k hk e=>HX.out.self (by rw [← e];exact hk)
  have HNOW:=Lib.hid (HX.out.now.only ho hFb)
  have hdt:By F wo (.slice dA o'.f.data.length dc) o'.f.data:=by rw [hdat];exact HD.out.only ho hFb
  have HDT:=Lib.hid hdt
  have HFC:Hid (∀ k,F k→k<wo.heap.size):=fun k hk=>Nat.lt_of_lt_of_le (HX.out.low k hk) ho.size
  have HS:Hid (∀ W,Below wo.heap.size wo W→W.cell? ⟨b,1,none⟩=some x.now∧W.cell? ⟨w.heap.size,0,none⟩=some (.int .i64 o'.kind)∧W.cell? ⟨w.heap.size,1,none⟩=some (.string (str o'.fr))∧W.cell? ⟨w.heap.size,2,none⟩=some (.string (str o'.to))∧W.cell? ⟨w.heap.size,3,none⟩=some (.int .i64 o'.f.mode)∧W.cell? ⟨w.heap.size,4,none⟩=some (.slice dA o'.f.data.length dc)∧W.cell? ⟨w.heap.size,5,none⟩=some (.int .i64 o'.f.time)):=fun W hW=>by
   have b1:=hblk.below hW hblk.lt
   have b2:=hbox.below hW hbox.lt
   exact ⟨b1.cell 1,b2.cell 0,b2.cell 1,b2.cell 2,b2.cell 3,b2.cell 4,b2.cell 5⟩
  have hblt2:b<wo.heap.size:=hblk.lt
  have HOC:=Lib.hid ho
  have HBLKC:=Lib.hid hblk
  have HBOXC:=Lib.hid hbox
  have HDAT:=Lib.hid hdat
  have HO':=Lib.hid ho'
  have HWO:Hid (w.heap.size≤wo.heap.size):=ho.size
  have HX0:=Lib.hid (Below.refl wo.heap.size wo)
  have hcz:=ho.size
  clear ho hblk hbox hdt hdat ho' hFb k0 k6 k5c k5f HW1 HBOX1 HO1
  go_upto_region 4 with (fail)
  go_cut [] (fun wx=>∃ v',RowsIn (fun k=>F k∨(wo.heap.size≤k∧k<wx.heap.size)) wx v' (applyM st.now o')∧Blk wx b 73 (fsC { st with time:=t+1 } { x with now:=v' })∧Blk wx w.heap.size 136 #[.int .i64 o'.kind,.string (str o'.fr),.string (str o'.to),.int .i64 o'.f.mode,.slice dA o'.f.data.length dc,.int .i64 o'.f.time]∧Only (fun k=>k=b) w wx)
  case first =>
   obtain ⟨p0,p1,p2,p3,p4,p5,p6⟩:=HS.out _ HX0.out
   go_region_with ((go_at_call 109;refine (rapply_any F _ st.now o' (.slice dA o'.f.data.length dc) _ (by exact HNOW.out) HN.out (by exact HDT.out) (by exact HFC.out)).mono ?_;rintro e w2 ⟨v2,rfl,hi2,hb2⟩;obtain ⟨A2,c2,rfl,g1,g2⟩:=hi2.slice;clear g1 g2;have hb2':Below wo.heap.size wo w2:=⟨hb2.os,hb2.tape,hb2.output,hb2.size,hb2.block⟩;have HB2:=Lib.hid hb2';have HI2:=Lib.hid hi2;have hblk2:=HBLKC.out.below hb2' hblt2;have q1:w2.cell? ⟨b,1,none⟩=some x.now:=hblk2.cell 1;have q2:w2.frozen? ⟨b,1,none⟩=false:=hblk2.frozen 1;have HK2:=Lib.hid hblk2;clear hi2 hb2 hb2' hblk2))
   all_goals
    have hu:RowsIn (fun k=>F k∨(wo.heap.size≤k∧k<w2.heap.size)) w2 (.slice A2 (applyM st.now o').length c2) (applyM st.now o'):=HI2.out.mono (fun k hk hf=>hf.imp id (fun h=>⟨h,hk⟩))
    have HU:=Lib.hid (hu.only (Only.set_ (M:=fun k=>k=b) (g:=b) (i:=1) (Only.refl _ w2) (.inl rfl) (.slice A2 (applyM st.now o').length c2)) (fun k hk e=>by
     rcases hk with hk | hk
     ·exact HX.out.self (by rw [← e];exact hk)
     ·omega))
    clear hu
    go_wp2_with fail
    go_meet
    refine ⟨_,?_,HK2.out.set_ 1 _,((HBOXC.out.below HB2.out HBOXC.out.lt).far hne _),?_⟩
    ·simpa using HU.out
    ·exact Only.set_ (M:=fun k=>k=b) (g:=b) (i:=1) (HOC.out.then_below HB2.out) (.inl rfl) _
  case rest =>
   obtain ⟨v',hnow',hblk',hbox',ho'⟩:=hcut
   go_upto_region 5 with (fail)
   have hFb:∀ k,F k→¬ (k=b):=fun k hk e=>HX.out.self (by rw [← e];exact hk)
   have hpn:∀ k,x.pending.ownBlock=some k→¬ (k=b):=fun k hk e=>HX.out.p_ne (by rw [hk,e])
   have hpend:=HX.out.pending.only ho' hFb hpn
   have HBLKP:=Lib.hid hblk'
   have HBOXP:=Lib.hid hbox'
   have HNOWP:=Lib.hid hnow'
   have HOP:=Lib.hid ho'
   have HPEND:=Lib.hid hpend
   have p3:wc.cell? ⟨b,3,none⟩=some x.pending:=hblk'.cell 3
   have p3f:wc.frozen? ⟨b,3,none⟩=false:=hblk'.frozen 3
   obtain ⟨r0,r1,r2,r3,r4,r5⟩:wc.cell? ⟨w.heap.size,0,none⟩=some (.int .i64 o'.kind)∧wc.cell? ⟨w.heap.size,1,none⟩=some (.string (str o'.fr))∧wc.cell? ⟨w.heap.size,2,none⟩=some (.string (str o'.to))∧wc.cell? ⟨w.heap.size,3,none⟩=some (.int .i64 o'.f.mode)∧wc.cell? ⟨w.heap.size,4,none⟩=some (.slice dA o'.f.data.length dc)∧wc.cell? ⟨w.heap.size,5,none⟩=some (.int .i64 o'.f.time):=⟨hbox'.cell 0,hbox'.cell 1,hbox'.cell 2,hbox'.cell 3,hbox'.cell 4,hbox'.cell 5⟩
   clear hnow' hblk' hbox' ho' hFb hpn hpend
   have hdt2:By F wc (.slice dA o'.f.data.length dc) o'.f.data:=by rw [HDAT.out];exact HD.out.only HOP.out (fun k hk e=>HX.out.self (by rw [← e];exact hk))
   have HPA:=Lib.hid (HPEND.out.alloc (.cells #[.int .i64 o'.kind,.string (str o'.fr),.string (str o'.to),.int .i64 o'.f.mode,.slice dA o'.f.data.length dc,.int .i64 o'.f.time] 136))
   have HPD:=Lib.hid (HPEND.out.drew.alloc (.cells #[.int .i64 o'.kind,.string (str o'.fr),.string (str o'.to),.int .i64 o'.f.mode,.slice dA o'.f.data.length dc,.int .i64 o'.f.time] 136))
   have HLA:=Lib.hid (TmpL.one (K:=opK) (F:=F) (a:=o') (d:=.slice dA o'.f.data.length dc) (Blk.new wc 136 #[.int .i64 o'.kind,.string (str o'.fr),.string (str o'.to),.int .i64 o'.f.mode,.slice dA o'.f.data.length dc,.int .i64 o'.f.time]) rfl (hdt2.only ((Only.refl (fun _=>False) wc).alloc _) (fun _ _=>id)))
   have HLD:=Lib.hid (TmpL.one (K:=opK) (F:=F) (a:=o') (d:=.slice dA o'.f.data.length dc) (Blk.new wc.drew 136 #[.int .i64 o'.kind,.string (str o'.fr),.string (str o'.to),.int .i64 o'.f.mode,.slice dA o'.f.data.length dc,.int .i64 o'.f.time]) rfl (hdt2.only (((Only.refl (fun _=>False) wc).drew).alloc _) (fun _ _=>id)))
   have HFP:Hid (∀ k,F k→k<(wc.alloc (.cells #[.int .i64 o'.kind,.string (str o'.fr),.string (str o'.to),.int .i64 o'.f.mode,.slice dA o'.f.data.length dc,.int .i64 o'.f.time] 136)).heap.size):=fun k hk=>by have:=HX.out.low k hk;have:=HOP.out.size;simp;omega
   have s1:Hid (st.pending.length+[o'].length≤2000000):=by unfold Hid;have:=HP.out;simp;omega
   clear hdt2
   have p3a:(wc.alloc (.cells #[.int .i64 o'.kind,.string (str o'.fr),.string (str o'.to),.int .i64 o'.f.mode,.slice dA o'.f.data.length dc,.int .i64 o'.f.time] 136)).cell? ⟨b,3,none⟩=some x.pending:=(HBLKP.out.alloc _).cell 3
   go_region_law (refine step_appendL typed_op (v:=x.pending) (ex:=.slice (some ⟨wc.heap.size,0,none⟩) 1 1) (l2:=[o']) rfl (.tmp 33) (.tmp 35) rfl (by first | exact HPA.out.drew | exact HPA.out | exact HPD.out) (by first | exact HLA.out.drew | exact HLA.out | exact HLD.out) (by rfl) (by rfl) s1.out (by exact Nat.zero_le _) (by exact HFP.out) ?_;intro v5 w5 ho5 hg5 hk5;obtain ⟨A5,c5,hv5,_,_⟩:=ho5.tmp.slice;subst hv5;have hb5:Blk w5 b 73 (fsC { st with time:=t+1 } { x with now:=v' }):=(HBLKP.out.alloc _).drew.grown hg5 (fun e=>HX.out.p_ne e.symm);have y3:w5.cell? ⟨b,3,none⟩=some x.pending:=hb5.cell 3;have y3f:w5.frozen? ⟨b,3,none⟩=false:=hb5.frozen 3;have HO5:=Lib.hid ho5;have HG5:=Lib.hid hg5;have HK5:=Lib.hid hk5;have HB5:=Lib.hid hb5;clear ho5 hg5 hk5 hb5)
   all_goals
    go_end0
    refine ⟨rfl,?_⟩
    have:=change_fin (wo:=wo) HX.out HMM.out HOP.out HWO.out HNOWP.out HB5.out (((Below.refl _ _).alloc (Nat.le_refl _) _).drew) HG5.out HO5.out HK5.out
    unfold changeM
    rw [show (if o.kind=1 then { o with f:={ o.f with time:=st.time+1 } } else o)=o' from HO'.out,HT.out]
    exact this
end Go.Proofs.YtlkolcokjmlmjaaGreat.Tx
namespace Go.Proofs.YtlkolcokjmlmjaaGreat.Tx
open Go.RowKit Go.Proofs.YtlkolcokjmlmjaaGreat.Sh
theorem OwnL.toG {K:Shape} {T:TypeId} {F F0 M':Nat→Prop} {w wf:World} {B:Nat} {v:Value} {l:List K.α} (h:OwnL K T F0 wf B v l) (hF:∀ k,k<wf.heap.size→F0 k→grow F w wf M' k) (hm:∀ k,v.ownBlock=some k→M' k) (hn:∀ k,v.ownBlock=some k→¬ F k):OwnL K T (grow F w wf M') wf B v l :=
 h.mono hF (fun k hk hg=>by
  rcases hg with hf | ⟨_,_,hn'⟩
  ·exact hn k hk hf
  ·exact hn' (hm k hk))
theorem fs_fin {F M:Nat→Prop} {w wf:World} {b:Nat} {st st':FSM} {x x':FsV} (hX:RefX F w b st x) (hM:∀ k,M k↔fsM b x k) (ow:Only (fsM b x) w wf) (hM':∀ k,fsM b x' k→fsM b x k∨w.heap.size≤k)
  (blk:Blk wf b 73 (fsC st' x')) (now:RowsIn (grow F w wf (fsM b x')) wf x'.now st'.now) (sure:RowsIn (grow F w wf (fsM b x')) wf x'.sure st'.sure) (pending:OwnL opK 136 (grow F w wf (fsM b x')) wf 0 x'.pending st'.pending)
  (plan:InL evK (grow F w wf (fsM b x')) wf x'.plan st'.plan) (user:OwnL evK 110 (grow F w wf (fsM b x')) wf 0 x'.user st'.user):FsPost F M w b st' wf:=by
 refine ⟨fsM b x',⟨x',⟨blk,now,sure,pending,plan,user,?_,?_⟩,fun k=>Iff.rfl⟩,ow.more (fun k _ h=>(hM k).2 h),fun k h=>(hM' k h).imp (hM k).2 id⟩
 ·rintro (h | ⟨_,_,h⟩)
  ·exact hX.self h
  ·exact h (.inl rfl)
 ·rintro k (h | ⟨_,h,_⟩)
  ·have:=hX.low k h;have:=ow.size;omega
  ·exact h
set_option maxRecDepth 100000 in
set_option maxHeartbeats 400000 in
theorem rcopyb_any (v:Value) (bs:List UInt8) (w:World) (h:SlV w v (bs.map bv)) (hn:bs.length≤2000000):Calls Tryz.prog 46 #[v] w fun e w'=>∃ v',e=.returned v'∧OwnV 5 w' w.heap.size v' (bs.map bv)∧Below w.heap.size w w':=by
 obtain ⟨A,c,rfl,hlc,hcm,hR⟩:=(h.below ((Below.refl w.heap.size w).alloc (Nat.le_refl _) (.cells #[] 5))).len
 rw [List.length_map] at hlc hR ⊢
 have hown:OwnV 5 (w.alloc (.cells #[] 5)) w.heap.size (.slice (some ⟨w.heap.size,0,none⟩) 0 0) (([]:List UInt8).map bv):=World.ownsRow_made w #[] 0 (Nat.le_refl _) (by unfold maxLen;omega) rfl
 obtain ⟨l,hl⟩:∃ l,bs.length=l:=⟨_,rfl⟩
 rw [hl] at hR hn ⊢
 have hsm:([]:List UInt8).length+l≤140737488355328:=by simp;omega
 have hz:w.heap.size≤(w.alloc (.cells #[] 5)).heap.size:=by simp
 have HR:=Lib.hid hR
 have HOWN:=Lib.hid hown
 clear hR hown hl h hlc hcm
 go_enter Tryz.func46,Tryz.ntmps46
 go_wp2_with (at_builtin;refine append_bytes rfl (.tmp 3) (.tmp 4) rfl _ w.heap.size (.slice (some ⟨w.heap.size,0,none⟩) 0 0) [] rfl HOWN.out _ A l c bs rfl HR.out hsm hz ?_;intro v3 w3 ho3 hb3;have HO:=Lib.hid ho3;have HB:=Lib.hid hb3;clear ho3 hb3)
 go_ret
 refine ⟨v3,rfl,?_,((Below.refl _ _).alloc (Nat.le_refl _) _).trans HB.out⟩
 simpa using HO.out
theorem OwnV.by_ {w:World} {B:Nat} {v:Value} {bs:List UInt8} {F:Nat→Prop} (h:OwnV 5 w B v (bs.map bv)):By (fun k=>F k∨(B≤k∧k<w.heap.size)) w v bs:=by
 have h':w.ownsRow B 5 1 v bs.length (bs.map bv):=by have:=h;unfold OwnV at this;rwa [List.length_map] at this
 exact Rd.of_own h' (fun k hk=>.inr (h'.lt k hk))
set_option maxRecDepth 100000 in
set_option maxHeartbeats 1600000 in
theorem rsafe_any (F M:Nat→Prop) (b:Nat) (st:FSM) (w:World) (h:RefAt F w b st M) (hn:st.now.length≤1000000) :
  Calls Tryz.prog 95 #[.pointer (some ⟨b,0,none⟩)] w fun e w'=>e=.returned (.tuple #[])∧FsPost F M w b (safeM st) w':=by
 obtain ⟨x,hX,hM⟩:=h
 have hblt:=hX.blk.lt
 have hwa:Blk (w.alloc (.cells #[] 128)) b 73 (fsC st x):=hX.blk.alloc _
 have c1:(w.alloc (.cells #[] 128)).cell? ⟨b,1,none⟩=some x.now:=hwa.cell 1
 have hre:=rows_empty F w w.heap.size (Nat.le_refl _) hX.low
 have hnow:=(hX.now.below ((Below.refl _ _).alloc (Nat.le_refl _) (.cells #[] 128))).tmp
 have hsm:([]:List RowM).length+st.now.length≤2000000:=by simp;omega
 have hz:w.heap.size≤(w.alloc (.cells #[] 128)).heap.size:=by simp
 have hF:∀ k,F k→k<(w.alloc (.cells #[] 128)).heap.size:=fun k hk=>by have:=hX.low k hk;simp;omega
 have HX:=Lib.hid hX
 have HMM:=Lib.hid hM
 have HRE:=Lib.hid hre
 have HNOW:=Lib.hid hnow
 have HF:=Lib.hid hF
 have HWA:=Lib.hid hwa
 clear hX hM hre hnow hF hwa hn
 go_enter Tryz.func95,Tryz.ntmps95
 go_wp2_with (at_builtin;refine append_rows rfl (.tmp 3) (.tmp 7) rfl F _ w.heap.size (.slice (some ⟨w.heap.size,0,none⟩) 0 0) [] rfl HRE.out _ st.now rfl HNOW.out hsm hz HF.out ?_;intro v3 w3 ho3 hg3 hb3;obtain ⟨A3,c3,hv3,g1,g2⟩:=ho3.slice;subst hv3;clear g1 g2;have HO3:=Lib.hid ho3;have HB3:=Lib.hid hb3;have hk3:Blk w3 b 73 (fsC st x):=HWA.out.below hb3 hblt;have y2:w3.cell? ⟨b,2,none⟩=some x.sure:=hk3.cell 2;have y2f:w3.frozen? ⟨b,2,none⟩=false:=hk3.frozen 2;have y3:w3.cell? ⟨b,3,none⟩=some x.pending:=hk3.cell 3;have y3f:w3.frozen? ⟨b,3,none⟩=false:=hk3.frozen 3;have HK3:=Lib.hid hk3;clear ho3 hg3 hb3 hk3)
 go_end0
 refine ⟨rfl,?_⟩
 have hB:Below w.heap.size w w3:=((Below.refl _ _).alloc (Nat.le_refl _) _).trans HB3.out
 have hX:=HX.out
 have hv3:(.slice A3 ([]++st.now).length c3:Value)=.slice A3 st.now.length c3:=by simp
 have ob:Only (fun k=>k=b) w ((w3.setCell ⟨b,2,none⟩ (.slice A3 st.now.length c3)).setCell ⟨b,3,none⟩ (.slice none 0 0)) :=
  Only.set_ (M:=fun k=>k=b) (g:=b) (i:=3) (Only.set_ (M:=fun k=>k=b) (g:=b) (i:=2) (Only.of_below hB) (.inl rfl) _) (.inl rfl) _
 have o3:Only (fun k=>k=b) w3 ((w3.setCell ⟨b,2,none⟩ (.slice A3 st.now.length c3)).setCell ⟨b,3,none⟩ (.slice none 0 0)) :=
  Only.set_ (M:=fun k=>k=b) (g:=b) (i:=3) (Only.set_ (M:=fun k=>k=b) (g:=b) (i:=2) (Only.refl _ w3) (.inl rfl) _) (.inl rfl) _
 have hz3:=hB.size
 have hzf:((w3.setCell ⟨b,2,none⟩ (.slice A3 st.now.length c3)).setCell ⟨b,3,none⟩ (.slice none 0 0)).heap.size=w3.heap.size:=by simp [World.setCell]
 have hFb:∀ k,F k→¬ (k=b):=fun k hk e=>hX.self (by rw [← e];exact hk)
 have hun:∀ k,x.user.ownBlock=some k→¬ (k=b):=fun k hk e=>hX.u_ne (by rw [hk,e])
 refine fs_fin (x':={ x with sure:=.slice A3 st.now.length c3,pending:=.slice none 0 0 }) hX HMM.out (ob.more (fun k _ h=>.inl h)) (fun k h=>?_) ((HK3.out.set_ 2 _).set_ 3 _) ((hX.now.only ob hFb).mono (fun k _ hk=>.inl hk)) ?_ (OwnL.nil_ _ _ _ _ _) ((hX.plan.only ob hFb).mono (fun k _ hk=>.inl hk)) ((hX.user.only ob hFb hun).toG (fun k _ hk=>.inl hk) (fun k hk=>.inr (.inr hk)) hX.user.2)
 ·rcases h with h | h | h
  ·exact .inl (.inl h)
  ·cases h
  ·exact .inl (.inr (.inr h))
 ·have h1:=HO3.out.rin
  rw [List.nil_append] at h1
  refine (h1.only o3 (fun k hk e=>?_)).mono (fun k hk hf=>?_)
  ·rcases hk with hk | hk
   ·exact hFb k hk e
   ·omega
  ·rcases hf with hf | hf
   ·exact .inl hf
   ·refine .inr ⟨hf.1,hk,fun hm=>?_⟩
    rcases hm with h | h | h
    ·omega
    ·cases h
    ·have:=(hX.user.lt k h).2;omega
end Go.Proofs.YtlkolcokjmlmjaaGreat.Tx
namespace Go.Proofs.YtlkolcokjmlmjaaGreat.Tx
open Go.RowKit Go.Proofs.YtlkolcokjmlmjaaGreat.Sh
theorem FsPost.of_below {F M:Nat→Prop} {w w1 w2:World} {b:Nat} {st:FSM} (hb:Below w.heap.size w w1) (h:FsPost F M w1 b st w2):FsPost F M w b st w2:=by
 obtain ⟨M2,⟨x,h1,h2⟩,h3,h4⟩:=h
 have hz:=hb.size
 have hz2:=h3.size
 refine ⟨M2,⟨x,h1.mono (F':=grow F w w2 M2) (fun k hk=>?_) (fun k hk hm=>?_) (fun k hk=>?_),h2⟩,(Only.of_below hb).trans h3 (fun k hk=>.inl hk),fun k hk=>(h4 k hk).imp id (fun h=>by omega)⟩
 ·rcases hk with hk | ⟨g1,g2,g3⟩
  ·exact .inl hk
  ·exact .inr ⟨by omega,g2,g3⟩
 ·rcases hk with hk | ⟨_,_,g3⟩
  ·exact h1.apart k (.inl hk) hm
  ·exact g3 ((h2 k).2 hm)
 ·rcases hk with hk | ⟨_,g2,_⟩
  ·exact h1.low k (.inl hk)
  ·exact g2
theorem RefAt.below {F M:Nat→Prop} {w w1:World} {b:Nat} {st:FSM} (h:RefAt F w b st M) (hb:Below w.heap.size w w1):RefAt F w1 b st M:=by
 obtain ⟨x,h1,h2⟩:=h
 exact ⟨x,h1.below hb,h2⟩
theorem FsPost.same {F M:Nat→Prop} {w w1:World} {b:Nat} {st:FSM} (h:RefAt F w b st M) (hb:Below w.heap.size w w1):FsPost F M w b st w1:=FsPost.of_below hb (FsPost.refl (h.below hb))
theorem FsPost.wide {F F' M:Nat→Prop} {w w1 w2:World} {b:Nat} {st:FSM} (hb:Below w.heap.size w w1) (hF':∀ k,F' k→F k∨(w.heap.size≤k∧k<w1.heap.size)) (hF:∀ k,F k→F' k) (h:FsPost F' M w1 b st w2):FsPost F M w b st w2:=by
 obtain ⟨M2,⟨x,h1,h2⟩,h3,h4⟩:=h
 have hz:=hb.size
 have hz2:=h3.size
 refine ⟨M2,⟨x,h1.mono (F':=grow F w w2 M2) (fun k hk=>?_) (fun k hk hm=>?_) (fun k hk=>?_),h2⟩,(Only.of_below hb).trans h3 (fun k hk=>.inl hk),fun k hk=>(h4 k hk).imp id (fun h=>by omega)⟩
 ·rcases hk with hk | ⟨g1,g2,g3⟩
  ·rcases hF' k hk with hf | ⟨g1,g2⟩
   ·exact .inl hf
   ·refine .inr ⟨g1,by omega,fun hm=>?_⟩
    exact h1.apart k (.inl hk) ((h2 k).1 hm)
  ·exact .inr ⟨by omega,g2,g3⟩
 ·rcases hk with hk | ⟨_,_,g3⟩
  ·exact h1.apart k (.inl (hF k hk)) hm
  ·exact g3 ((h2 k).2 hm)
 ·rcases hk with hk | ⟨_,g2,_⟩
  ·exact h1.low k (.inl (hF k hk))
  ·exact g2
theorem By.nil_ (F:Nat→Prop) (w:World):By F w (.slice none 0 0) []:=Rd.nil_ F w 1
set_option maxRecDepth 100000 in
set_option maxHeartbeats 1600000 in
theorem rdrop_any (F M:Nat→Prop) (b:Nat) (st:FSM) (p:List UInt8) (w:World) (h:RefAt F w b st M) (hp:p.length≤1000000) (ht:0≤st.time∧st.time≤4000000000000) (hn:st.now.length≤1000000) (hq:st.pending.length≤1000000) :
  Calls Tryz.prog 96 #[.pointer (some ⟨b,0,none⟩),.string (str p)] w fun e w'=>e=.returned (.int .i64 (dropE st p))∧FsPost F M w b (dropM st p) w':=by
 have H:=Lib.hid h
 have HT:=Lib.hid ht
 have HN:=Lib.hid hn
 have HQ:=Lib.hid hq
 clear h ht hn hq
 obtain ⟨t,htt⟩:∃ t,pathB p=t:=⟨_,rfl⟩
 have HTT:=Lib.hid htt
 clear htt
 go_enter Tryz.func96,Tryz.ntmps96
 go_wp2_with fail
 refine (rpath_any p _ hp).mono ?_
 rintro e w1 ⟨rfl,hb⟩
 rw [HTT.out]
 have HB:=Lib.hid hb
 have H1:=Lib.hid (H.out.below hb)
 clear hb
 cases t with
 | false =>
  have HE:Hid (dropE st p=6):=by unfold Hid dropE;rw [if_pos HTT.out]
  have HM:Hid (dropM st p=st):=by unfold Hid dropM;rw [HE.out,if_neg (by decide)]
  go_wp2_with fail
  go_ret
  exact ⟨by rw [HE.out];rfl,by rw [HM.out];exact FsPost.same H.out HB.out⟩
 | true =>
  obtain ⟨x,hX,hM⟩:=H1.out
  have c1:w1.cell? ⟨b,1,none⟩=some x.now:=hX.blk.cell 1
  have HX:=Lib.hid hX
  clear hX hM
  go_wp2_with fail
  refine (rfind_any F x.now st.now p _ HX.out.now).mono ?_
  rintro e w2 ⟨rfl,rfl⟩
  cases hf:findM st.now p with
  | none =>
   have HZ:=Lib.hid (findZ_none hf)
   have HE:Hid (dropE st p=7):=by unfold Hid dropE;rw [if_neg (by rw [HTT.out];decide),if_pos (by rw [hf];rfl)]
   have HM:Hid (dropM st p=st):=by unfold Hid dropM;rw [HE.out,if_neg (by decide)]
   rw [HZ.out]
   clear hf
   go_wp2_with fail
   go_ret
   exact ⟨by rw [HE.out];rfl,by rw [HM.out];exact FsPost.same H.out HB.out⟩
  | some i =>
   have HZ:=Lib.hid (findZ_some hf)
   have HE:Hid (dropE st p=0):=by unfold Hid dropE;rw [if_neg (by rw [HTT.out];decide),if_neg (by rw [hf];simp)]
   have HM:Hid (dropM st p=changeM st ⟨3,p,[],⟨0,[],0⟩⟩):=by unfold Hid dropM;rw [HE.out,if_pos rfl]
   have i0:(0:Int)≤(i:Int):=by omega
   rw [HZ.out]
   clear hf
   go_wp2_with fail
   refine (rchange_any F M b st ⟨3,p,[],⟨0,[],0⟩⟩ (.slice none 0 0) _ H1.out (By.nil_ F _) HT.out HN.out HQ.out).mono ?_
   rintro e w2 ⟨rfl,hpost⟩
   have HP:=Lib.hid hpost
   clear hpost
   go_wp2_with fail
   go_ret
   exact ⟨by rw [HE.out];rfl,by rw [HM.out];exact FsPost.of_below HB.out HP.out⟩
end Go.Proofs.YtlkolcokjmlmjaaGreat.Tx
namespace Go.Proofs.YtlkolcokjmlmjaaGreat.Tx
open Go.RowKit Go.Proofs.YtlkolcokjmlmjaaGreat.Sh
theorem oldM_none {R:List RowM} {p:List UInt8} (h:findM R p=none):oldM R p=0:=by unfold oldM;rw [h]
theorem oldM_some {R:List RowM} {p:List UInt8} {i:Nat} {r:RowM} (h:findM R p=some i) (hr:R[i]?=some r):oldM R p=r.f.data.length:=by unfold oldM;rw [h];simp only [hr]
theorem oldM_le (R:List RowM) (p:List UInt8):oldM R p≤usedM R:=by
 unfold oldM
 split
 ·exact Nat.zero_le _
 ·rename_i i hi
  split
  ·exact Nat.zero_le _
  ·rename_i r hr
   have h1:=used_take hr
   have h2:=used_le R (i+1)
   omega
theorem RefAt.grown {F:Nat→Prop} {w w1:World} {b:Nat} {st:FSM} {M:Nat→Prop} (h:RefAt F w b st M) (hb:Below w.heap.size w w1) {n:Nat} (hn:w.heap.size≤n):RefAt (fun k=>F k∨(n≤k∧k<w1.heap.size)) w1 b st M:=by
 obtain ⟨x,h1,h2⟩:=h
 refine ⟨x,(h1.below hb).mono (fun k hk=>.inl hk) (fun k hk hm=>?_) (fun k hk=>?_),h2⟩
 ·rcases hk with hk | hk
  ·exact h1.apart k hk hm
  ·have:=h1.lt k hm;omega
 ·rcases hk with hk | hk
  ·have:=h1.low k hk;have:=hb.size;omega
  ·exact hk.2
set_option maxRecDepth 100000 in
set_option maxHeartbeats 6400000 in
theorem rput_any (F M:Nat→Prop) (b:Nat) (st:FSM) (p:List UInt8) (mode:Int) (dv:Value) (data:List UInt8) (only full:Bool) (room:Int) (w:World) (h:RefAt F w b st M) (hdv:SlV w dv (data.map bv)) (hp:p.length≤1000000) (hR:∀ r∈st.now,r.path.length≤1000000)
  (hu:usedM st.now≤4000000000000) (ht:0≤st.time∧st.time≤4000000000000) (hn:st.now.length≤1000000) (hq:st.pending.length≤1000000) :
  Calls Tryz.prog 94 #[.pointer (some ⟨b,0,none⟩),.string (str p),.int .i64 mode,dv,.bool only,.bool full,.int .i64 room] w fun e w'=>e=.returned (.int .i64 (putE st p mode data only full room))∧FsPost F M w b (putM st p mode data only full room) w':=by
 have H:=Lib.hid h
 have HT:=Lib.hid ht
 have HN:=Lib.hid hn
 have HQ:=Lib.hid hq
 have HRP:=Lib.hid hR
 have HU:=Lib.hid hu
 have HDV:=Lib.hid hdv
 have hold:=oldM_le st.now p
 obtain ⟨dA,dc,rfl,hd1,hd2,_⟩:=hdv.len
 rw [List.length_map] at hd1 HDV ⊢
 unfold maxLen at hd2
 obtain ⟨dn,hdn⟩:∃ dn,data.length=dn:=⟨_,rfl⟩
 rw [hdn] at hd1 HDV ⊢
 have HDN:=Lib.hid hdn
 obtain ⟨t,htt⟩:∃ t,pathB p=t:=⟨_,rfl⟩
 have HTT:=Lib.hid htt
 obtain ⟨x,hX,_⟩:=h
 have c1:w.cell? ⟨b,1,none⟩=some x.now:=hX.blk.cell 1
 have HX:=Lib.hid hX
 have dn0:(0:Int)≤(dn:Int):=by omega
 obtain ⟨ov,hov⟩:∃ ov,oldM st.now p=ov:=⟨_,rfl⟩
 obtain ⟨uv,huv⟩:∃ uv,usedM st.now=uv:=⟨_,rfl⟩
 rw [hov,huv] at hold
 rw [huv] at hu
 have HOV:=Lib.hid hov
 have HUV:=Lib.hid huv
 have o0:(0:Int)≤(ov:Int):=by omega
 have o1:(ov:Int)≤(uv:Int):=by omega
 have u1:(uv:Int)≤4000000000000:=by omega
 clear ht hn hq hR hdv hdn htt hX hov huv hold hu
 go_enter Tryz.func94,Tryz.ntmps94
 go_wp2_with fail
 refine (rfind_any F x.now st.now p _ HX.out.now).mono ?_
 rintro e w2 ⟨rfl,rfl⟩
 cases hf:findM st.now p with
 | none =>
  have HZ:=Lib.hid (findZ_none hf)
  have HF:=Lib.hid hf
  have ho0:=oldM_none hf
  rw [HOV.out] at ho0
  subst ho0
  rw [HZ.out]
  clear hf
  go_wp2_with fail
  refine (rpath_any p _ hp).mono ?_
  rintro e w1 ⟨rfl,hb⟩
  rw [HTT.out]
  have HB:=Lib.hid hb
  have H1:=Lib.hid (H.out.below hb)
  have HDV1:=Lib.hid (HDV.out.below hb)
  clear hb
  cases t with
  | false =>
   have HE:Hid (putE st p mode data only full room=6):=by unfold Hid putE;rw [if_pos HTT.out]
   have HM:Hid (putM st p mode data only full room=st):=by unfold Hid putM;rw [HE.out,if_neg (by decide)]
   go_wp2_with fail
   go_ret
   exact ⟨by rw [HE.out];rfl,by rw [HM.out];exact FsPost.same H.out HB.out⟩
  | true =>
   by_cases hm:mode<1∨3<mode
   ·have HE:Hid (putE st p mode data only full room=1):=by unfold Hid putE;rw [if_neg (by rw [HTT.out];decide),if_pos hm]
    have HM:Hid (putM st p mode data only full room=st):=by unfold Hid putM;rw [HE.out,if_neg (by decide)]
    have hm2:mode<1∨(1≤mode∧3<mode):=by omega
    clear hm
    rcases hm2 with hm | ⟨hm,hm3⟩
    all_goals
     go_wp2_with fail
     go_ret
     exact ⟨by rw [HE.out];rfl,by rw [HM.out];exact FsPost.same H.out HB.out⟩
   ·have m1:1≤mode:=by omega
    have m3:mode≤3:=by omega
    have HMO:=Lib.hid hm
    clear hm
    by_cases hl:20000<dn
    ·have HE:Hid (putE st p mode data only full room=3):=by unfold Hid putE;rw [if_neg (by rw [HTT.out];decide),if_neg HMO.out,if_pos (by rw [HDN.out];exact hl)]
     have HM:Hid (putM st p mode data only full room=st):=by unfold Hid putM;rw [HE.out,if_neg (by decide)]
     have z1:(20000:Int)<(dn:Int):=by omega
     clear hl
     go_wp2_with fail
     go_ret
     exact ⟨by rw [HE.out];rfl,by rw [HM.out];exact FsPost.same H.out HB.out⟩
    ·have z1:(dn:Int)≤20000:=by omega
     have hl2:¬ 20000<data.length:=by rw [HDN.out];exact hl
     have HLE:=Lib.hid hl2
     clear hl hl2
     have HD:Hid (¬ ((findM st.now p).isSome=true∧only=true)):=fun h=>by rw [HF.out] at h;cases h.1
     obtain ⟨x1,hX1,_⟩:=H1.out
     have c11:w1.cell? ⟨b,1,none⟩=some x1.now:=hX1.blk.cell 1
     have HX1:=Lib.hid hX1
     obtain ⟨my,hmy⟩:∃ my,mayM st.now p=my:=⟨_,rfl⟩
     have HMY:=Lib.hid hmy
     clear hX1 hmy
     go_wp2_with fail
     refine (rmay_any F x1.now st.now p _ HX1.out.now hp HRP.out).mono ?_
     rintro e w2 ⟨rfl,hb2⟩
     rw [HMY.out]
     have HB2:=Lib.hid (HB.out.trans (hb2.mono HB.out.size))
     have H2:=Lib.hid (H1.out.below hb2)
     have HDV2:=Lib.hid (HDV1.out.below hb2)
     clear hb2
     cases my with
     | false =>
      have HE:Hid (putE st p mode data only full room=9):=by unfold Hid putE;rw [if_neg (by rw [HTT.out];decide),if_neg HMO.out,if_neg HLE.out,if_neg HD.out,if_pos ⟨by rw [HF.out];rfl,HMY.out⟩]
      have HM:Hid (putM st p mode data only full room=st):=by unfold Hid putM;rw [HE.out,if_neg (by decide)]
      go_wp2_with fail
      go_ret
      exact ⟨by rw [HE.out];rfl,by rw [HM.out];exact FsPost.same H.out HB2.out⟩
     | true =>
      have HEE:Hid (¬ ((findM st.now p).isNone=true∧mayM st.now p=false)):=fun h=>by rw [HMY.out] at h;cases h.2
      clear HB H1 HDV1
      cases full with
      | true =>
       have HE:Hid (putE st p mode data only true room=10):=by unfold Hid putE;rw [if_neg (by rw [HTT.out];decide),if_neg HMO.out,if_neg HLE.out,if_neg HD.out,if_neg HEE.out,if_pos (.inl rfl)]
       have HM:Hid (putM st p mode data only true room=st):=by unfold Hid putM;rw [HE.out,if_neg (by decide)]
       go_wp2_with fail
       go_ret
       exact ⟨by rw [HE.out];rfl,by rw [HM.out];exact FsPost.same H.out HB2.out⟩
      | false =>
       obtain ⟨x2,hX2,_⟩:=H2.out
       have c12:w2.cell? ⟨b,1,none⟩=some x2.now:=hX2.blk.cell 1
       have HX2:=Lib.hid hX2
       clear hX2
       go_wp2_with fail
       refine (rused_any F x2.now st.now _ HX2.out.now HU.out).mono ?_
       rintro e w3 ⟨rfl,rfl⟩
       rw [HUV.out]
       by_cases hr:room<(uv:Int)+(dn:Int)
       ·have HE:Hid (putE st p mode data only false room=10):=by unfold Hid putE;rw [if_neg (by rw [HTT.out];decide),if_neg HMO.out,if_neg HLE.out,if_neg HD.out,if_neg HEE.out,if_pos (.inr (by rw [HUV.out,HOV.out,HDN.out];omega))]
        have HM:Hid (putM st p mode data only false room=st):=by unfold Hid putM;rw [HE.out,if_neg (by decide)]
        go_wp2_with fail
        go_ret
        exact ⟨by rw [HE.out];rfl,by rw [HM.out];exact FsPost.same H.out HB2.out⟩
       ·have HE:Hid (putE st p mode data only false room=0):=by
         unfold Hid putE
         rw [if_neg (by rw [HTT.out];decide),if_neg HMO.out,if_neg HLE.out,if_neg HD.out,if_neg HEE.out,if_neg]
         rintro (h | h)
         ·cases h
         ·rw [HUV.out,HOV.out,HDN.out] at h;omega
        have HM:Hid (putM st p mode data only false room=changeM st ⟨1,[],p,⟨mode,data,0⟩⟩):=by unfold Hid putM;rw [HE.out,if_pos rfl]
        have hr2:(uv:Int)+(dn:Int)≤room:=by omega
        clear hr
        go_wp2_with fail
        refine (rcopyb_any _ data _ HDV2.out (by have:=HLE.out;omega)).mono ?_
        rintro e w4 ⟨v4,rfl,ho4,hb4⟩
        obtain ⟨A4,c4,rfl,g1,g2⟩:=ho4.length
        rw [List.length_map,HDN.out] at ho4 ⊢
        have HBY:=Lib.hid (OwnV.by_ (F:=F) ho4)
        have H4:=Lib.hid (H2.out.grown hb4 (Nat.le_refl _))
        have HB4:=Lib.hid (HB2.out.trans (hb4.mono HB2.out.size))
        have hz4:=hb4.size
        have hz2:=HB2.out.size
        clear ho4 hb4 g1 g2
        go_wp2_with fail
        refine (rchange_any _ M b st ⟨1,[],p,⟨mode,data,0⟩⟩ (.slice A4 dn c4) _ H4.out HBY.out HT.out HN.out HQ.out).mono ?_
        rintro e w5 ⟨rfl,hpost⟩
        have HP:=Lib.hid hpost
        clear hpost
        go_wp2_with fail
        go_ret
        exact ⟨by rw [HE.out];rfl,by rw [HM.out];exact FsPost.wide HB4.out (fun k hk=>hk.imp id (fun h=>⟨Nat.le_trans hz2 h.1,h.2⟩)) (fun k hk=>.inl hk) HP.out⟩
 | some i =>
  obtain ⟨r,hr,_⟩:=find_at hf
  have HZ:=Lib.hid (findZ_some hf)
  have HF:=Lib.hid hf
  have ho0:=oldM_some hf hr
  rw [HOV.out] at ho0
  obtain ⟨A,c,hAc,hlc,hcm⟩:=HX.out.now.slice
  have hil:i<st.now.length:=(List.getElem?_eq_some_iff.1 hr).1
  have hxn:=HX.out.now
  rw [hAc] at hxn c1 ⊢
  obtain ⟨ad,d2,rfl,hby,_,_,x2,_⟩:=hxn.at_ i r hr
  obtain ⟨A2,c2',rfl,k1,k2⟩:=hby.slice
  rw [← ho0] at x2 k1
  obtain ⟨n,hN⟩:∃ n,st.now.length=n:=⟨_,rfl⟩
  rw [hN] at hlc hil c1 ⊢
  unfold maxLen at hcm k2
  have i0:(0:Int)≤(i:Int):=by omega
  have i1:(i:Int)<(n:Int):=by omega
  rw [HZ.out]
  clear hf hr hAc hN hxn hby ho0
  go_wp2_with fail
  refine (rpath_any p _ hp).mono ?_
  rintro e w1 ⟨rfl,hb⟩
  rw [HTT.out]
  have HB:=Lib.hid hb
  have H1:=Lib.hid (H.out.below hb)
  have HDV1:=Lib.hid (HDV.out.below hb)
  clear hb
  cases t with
  | false =>
   have HE:Hid (putE st p mode data only full room=6):=by unfold Hid putE;rw [if_pos HTT.out]
   have HM:Hid (putM st p mode data only full room=st):=by unfold Hid putM;rw [HE.out,if_neg (by decide)]
   go_wp2_with fail
   go_ret
   exact ⟨by rw [HE.out];rfl,by rw [HM.out];exact FsPost.same H.out HB.out⟩
  | true =>
   by_cases hm:mode<1∨3<mode
   ·have HE:Hid (putE st p mode data only full room=1):=by unfold Hid putE;rw [if_neg (by rw [HTT.out];decide),if_pos hm]
    have HM:Hid (putM st p mode data only full room=st):=by unfold Hid putM;rw [HE.out,if_neg (by decide)]
    have hm2:mode<1∨(1≤mode∧3<mode):=by omega
    clear hm
    rcases hm2 with hm | ⟨hm,hm3⟩
    all_goals
     go_wp2_with fail
     go_ret
     exact ⟨by rw [HE.out];rfl,by rw [HM.out];exact FsPost.same H.out HB.out⟩
   ·have m1:1≤mode:=by omega
    have m3:mode≤3:=by omega
    have HMO:=Lib.hid hm
    clear hm
    by_cases hl:20000<dn
    ·have HE:Hid (putE st p mode data only full room=3):=by unfold Hid putE;rw [if_neg (by rw [HTT.out];decide),if_neg HMO.out,if_pos (by rw [HDN.out];exact hl)]
     have HM:Hid (putM st p mode data only full room=st):=by unfold Hid putM;rw [HE.out,if_neg (by decide)]
     have z1:(20000:Int)<(dn:Int):=by omega
     clear hl
     go_wp2_with fail
     go_ret
     exact ⟨by rw [HE.out];rfl,by rw [HM.out];exact FsPost.same H.out HB.out⟩
    ·have z1:(dn:Int)≤20000:=by omega
     have hl2:¬ 20000<data.length:=by rw [HDN.out];exact hl
     have HLE:=Lib.hid hl2
     clear hl hl2
     cases only with
     | true =>
      have HE:Hid (putE st p mode data true full room=8):=by unfold Hid putE;rw [if_neg (by rw [HTT.out];decide),if_neg HMO.out,if_neg HLE.out,if_pos ⟨by rw [HF.out];rfl,rfl⟩]
      have HM:Hid (putM st p mode data true full room=st):=by unfold Hid putM;rw [HE.out,if_neg (by decide)]
      go_wp2_with fail
      go_ret
      exact ⟨by rw [HE.out];rfl,by rw [HM.out];exact FsPost.same H.out HB.out⟩
     | false =>
      have HD:Hid (¬ ((findM st.now p).isSome=true∧false=true)):=fun h=>by cases h.2
      have HEE:Hid (¬ ((findM st.now p).isNone=true∧mayM st.now p=false)):=fun h=>by rw [HF.out] at h;cases h.1
      have HB2:=Lib.hid HB.out
      have H2:=Lib.hid H1.out
      have HDV2:=Lib.hid HDV1.out
      clear HB H1 HDV1
      cases full with
      | true =>
       have HE:Hid (putE st p mode data false true room=10):=by unfold Hid putE;rw [if_neg (by rw [HTT.out];decide),if_neg HMO.out,if_neg HLE.out,if_neg HD.out,if_neg HEE.out,if_pos (.inl rfl)]
       have HM:Hid (putM st p mode data false true room=st):=by unfold Hid putM;rw [HE.out,if_neg (by decide)]
       go_wp2_with fail
       go_ret
       exact ⟨by rw [HE.out];rfl,by rw [HM.out];exact FsPost.same H.out HB2.out⟩
      | false =>
       obtain ⟨x2,hX2,_⟩:=H2.out
       have c12:w1.cell? ⟨b,1,none⟩=some x2.now:=hX2.blk.cell 1
       have HX2:=Lib.hid hX2
       clear hX2
       go_wp2_with fail
       refine (rused_any F x2.now st.now _ HX2.out.now HU.out).mono ?_
       rintro e w3 ⟨rfl,rfl⟩
       rw [HUV.out]
       by_cases hr:room<(uv:Int) - (ov:Int)+(dn:Int)
       ·have HE:Hid (putE st p mode data false false room=10):=by unfold Hid putE;rw [if_neg (by rw [HTT.out];decide),if_neg HMO.out,if_neg HLE.out,if_neg HD.out,if_neg HEE.out,if_pos (.inr (by rw [HUV.out,HOV.out,HDN.out];omega))]
        have HM:Hid (putM st p mode data false false room=st):=by unfold Hid putM;rw [HE.out,if_neg (by decide)]
        go_wp2_with fail
        go_ret
        exact ⟨by rw [HE.out];rfl,by rw [HM.out];exact FsPost.same H.out HB2.out⟩
       ·have HE:Hid (putE st p mode data false false room=0):=by
         unfold Hid putE
         rw [if_neg (by rw [HTT.out];decide),if_neg HMO.out,if_neg HLE.out,if_neg HD.out,if_neg HEE.out,if_neg]
         rintro (h | h)
         ·cases h
         ·rw [HUV.out,HOV.out,HDN.out] at h;omega
        have HM:Hid (putM st p mode data false false room=changeM st ⟨1,[],p,⟨mode,data,0⟩⟩):=by unfold Hid putM;rw [HE.out,if_pos rfl]
        have hr2:(uv:Int) - (ov:Int)+(dn:Int)≤room:=by omega
        clear hr
        go_wp2_with fail
        refine (rcopyb_any _ data _ HDV2.out (by have:=HLE.out;omega)).mono ?_
        rintro e w4 ⟨v4,rfl,ho4,hb4⟩
        obtain ⟨A4,c4,rfl,g1,g2⟩:=ho4.length
        rw [List.length_map,HDN.out] at ho4 ⊢
        have HBY:=Lib.hid (OwnV.by_ (F:=F) ho4)
        have H4:=Lib.hid (H2.out.grown hb4 (Nat.le_refl _))
        have HB4:=Lib.hid (HB2.out.trans (hb4.mono HB2.out.size))
        have hz4:=hb4.size
        have hz2:=HB2.out.size
        clear ho4 hb4 g1 g2
        go_wp2_with fail
        refine (rchange_any _ M b st ⟨1,[],p,⟨mode,data,0⟩⟩ (.slice A4 dn c4) _ H4.out HBY.out HT.out HN.out HQ.out).mono ?_
        rintro e w5 ⟨rfl,hpost⟩
        have HP:=Lib.hid hpost
        clear hpost
        go_wp2_with fail
        go_ret
        exact ⟨by rw [HE.out];rfl,by rw [HM.out];exact FsPost.wide HB4.out (fun k hk=>hk.imp id (fun h=>⟨Nat.le_trans hz2 h.1,h.2⟩)) (fun k hk=>.inl hk) HP.out⟩
end Go.Proofs.YtlkolcokjmlmjaaGreat.Tx
