/- Texts put together: VFx10, VFx11, VFx12. -/
import Derived.Test.YtlkolcokjmlmjaaGreatQv08
namespace Go.Proofs.YtlkolcokjmlmjaaGreat.Tx
open Go.RowKit Go.Proofs.YtlkolcokjmlmjaaGreat.Sh
theorem user_fin {F F':Nat→Prop} {w wl w5:World} {b:Nat} {st:FSM} {x:FsV} {M:Nat→Prop} {v5:Value} {u':List EvM} (hX:RefX F w b st x) (hM:∀ k,M k↔fsM b x k)
  (hl:Below w.heap.size w wl) (hF':∀ k,F' k→F k∨(w.heap.size≤k∧k<wl.heap.size)) (hg:wl.grownBy w5 x.user.ownBlock) (hown:OwnL evK 110 F' w5 0 v5 u') (hk:v5.ownBlock=x.user.ownBlock∨v5.ownBlock=some wl.heap.size) :
  FsPost F M w b { st with user:=u' } (w5.setCell ⟨b,8,none⟩ v5):=by
 have hz1:=hl.size
 have hz2:=hg.size
 have hbw:b<w.heap.size:=hX.blk.lt
 have hwz:(w5.setCell ⟨b,8,none⟩ v5).heap.size=w5.heap.size:=by simp [World.setCell]
 have hblk:Blk w5 b 73 (fsC st x):=(hX.blk.below hl hbw).grown hg (fun e=>hX.u_ne e.symm)
 have o5:Only (fun k=>x.user.ownBlock=some k) w w5:=(Only.of_below hl).trans (M':=fun k=>x.user.ownBlock=some k) ⟨hg.os,hg.tape,hg.output,hg.size,fun k hk hn=>hg.block k hk (fun e=>hn e.symm)⟩ (fun k hk=>.inl hk)
 have ow:Only (fun k=>k=b∨x.user.ownBlock=some k) w (w5.setCell ⟨b,8,none⟩ v5):=Only.set_ (M:=fun k=>k=b∨x.user.ownBlock=some k) (g:=b) (i:=8) (o5.more (fun k _ h=>.inr h)) (.inl (.inl rfl)) v5
 have hdF:∀ k,F k→¬ (k=b∨x.user.ownBlock=some k):=fun k hf h=>hX.apart k hf (h.imp id .inr)
 have hv5b:∀ k,v5.ownBlock=some k→¬ (k=b):=fun k hk e=>by
  obtain ⟨⟨ds,h1,_⟩,_⟩:=hown
  exact own_blk_ne h1 hblk (by decide) (by rw [hk,e])
 have hv5F:∀ k,v5.ownBlock=some k→¬ F k:=fun k hk' hf=>by
  rcases hk with e | e
  ·exact hX.user.2 k (by rw [← e];exact hk') hf
  ·rw [e] at hk';injection hk' with hk';have:=hX.low k hf;omega
 have hpu:∀ k,x.pending.ownBlock=some k→¬ (k=b∨x.user.ownBlock=some k):=fun k hk h=>by
  rcases h with h | h
  ·exact hX.p_ne (by rw [hk,h])
  ·exact hX.pu_ne k hk h
 refine fs_fin (x':={ x with user:=v5 }) hX hM (ow.more (fun k _ h=>h.imp id .inr)) (fun k h=>?_) (hblk.set_ 8 v5) ((hX.now.only ow hdF).mono (fun k _ hk=>.inl hk)) ((hX.sure.only ow hdF).mono (fun k _ hk=>.inl hk)) ((hX.pending.only ow hdF hpu).toG (fun k _ hk=>.inl hk) (fun k hk=>.inr (.inl hk)) hX.pending.2) ((hX.plan.only ow hdF).mono (fun k _ hk=>.inl hk)) ?_
 ·rcases h with h | h | h
  ·exact .inl (.inl h)
  ·exact .inl (.inr (.inl h))
  ·rcases hk with e | e
   ·exact .inl (.inr (.inr (by rw [← e];exact h)))
   ·right
    have h':v5.ownBlock=some k:=h
    rw [e] at h';injection h' with h';omega
 ·have hF'b:∀ k,F' k→¬ (k=b):=fun k hk e=>by
   rcases hF' k hk with hf | hf
   ·exact hX.self (by rw [← e];exact hf)
   ·omega
  refine (hown.only (M:=fun k=>k=b) (Only.set_ (M:=fun k=>k=b) (g:=b) (i:=8) (Only.refl _ w5) (.inl rfl) v5) hF'b hv5b).toG (fun k hk hf=>?_) (fun k hk=>.inr (.inr hk)) hv5F
  rcases hF' k hf with h | h
  ·exact .inl h
  ·refine .inr ⟨h.1,hk,fun hm=>?_⟩
   rcases hm with hm | hm | hm
   ·omega
   ·have h':x.pending.ownBlock=some k:=hm
    have:=(hX.pending.lt k h').2;omega
   ·exact hown.2 k hm hf
theorem putE_len {st:FSM} {p:List UInt8} {mode:Int} {data:List UInt8} {only full:Bool} {room:Int} (h:putE st p mode data only full room=0):data.length≤20000:=by
 unfold putE at h
 split at h
 ·cases h
 ·split at h
  ·cases h
  ·split at h
   ·cases h
   ·omega
theorem By.slv {F:Nat→Prop} {w:World} {v:Value} {bs:List UInt8} (h:By F w v bs):SlV w v (bs.map bv):=by
 unfold By at h
 refine Rd.slv (F:=F) ?_
 rw [List.length_map]
 exact h
theorem By.bound {F:Nat→Prop} {w:World} {v:Value} {bs:List UInt8} (h:By F w v bs):By (fun k=>F k∧k<w.heap.size) w v bs:=Rd.mono h (fun _ hk hf=>⟨hf,hk⟩)
theorem user_pre {F:Nat→Prop} {w w4:World} {b:Nat} {st:FSM} {x:FsV} {v4:Value} {data:List UInt8} {e:EvM} {cs:Array Value} (hX:RefX F w b st x) (hb:Below w.heap.size w w4) (ho:OwnV 5 w4 w.heap.size v4 (data.map bv)) (he:e.data=data) (hcs:cs.toList=evK.cells e v4) :
  (∀ i,w4.cell? ⟨b,i,none⟩=w.cell? ⟨b,i,none⟩)∧(∀ i,(w4.alloc (.cells cs 110)).cell? ⟨b,i,none⟩=w.cell? ⟨b,i,none⟩)∧Blk (w4.alloc (.cells cs 110)) b 73 (fsC st x)∧OwnL evK 110 (fun k=>F k∨(w.heap.size≤k∧k<w4.heap.size)) (w4.alloc (.cells cs 110)) 0 x.user st.user ∧
   TmpL evK (fun k=>F k∨(w.heap.size≤k∧k<w4.heap.size)) (w4.alloc (.cells cs 110)) (.slice (some ⟨w4.heap.size,0,none⟩) 1 1) [e]∧∀ k,(F k∨(w.heap.size≤k∧k<w4.heap.size))→k<(w4.alloc (.cells cs 110)).heap.size:=by
 have h4:=hX.below hb
 have hz:=hb.size
 refine ⟨fun i=>(h4.blk.cell i).trans (hX.blk.cell i).symm,fun i=>((h4.blk.alloc _).cell i).trans (hX.blk.cell i).symm,h4.blk.alloc _,OwnL.alloc (h4.user.mono (fun k _ hk=>.inl hk) (fun k hk hf=>?_)) _,TmpL.one (Blk.new w4 _ cs) hcs ?_,fun k hk=>?_⟩
 ·rcases hf with hf | hf
  ·exact hX.user.2 k hk hf
  ·have:=(hX.user.lt k hk).2;omega
 ·have hby:By (fun k=>F k∨(w.heap.size≤k∧k<w4.heap.size)) w4 v4 data:=OwnV.by_ ho
  rw [show evK.data e=data from he]
  exact hby.only ((Only.refl (fun _=>False) w4).alloc _) (fun _ _=>id)
 ·rcases hk with hk | hk
  ·have:=hX.low k hk;simp;omega
  ·simp;omega
set_option maxRecDepth 100000 in
set_option maxHeartbeats 6400000 in
theorem ruserr_any (F M:Nat→Prop) (b:Nat) (st:FSM) (p:List UInt8) (w:World) (h:RefAt F w b st M) (hp:p.length≤1000000) (ht:0≤st.time∧st.time≤4000000000000) (hn:st.now.length≤1000000) (hq:st.pending.length≤1000000) (hn2:(dropM st p).now.length≤1000000) (hus:st.user.length≤1000000) :
  Calls Tryz.prog 58 #[.pointer (some ⟨b,0,none⟩),.string (str p)] w fun e w'=>e=.returned (.int .i64 (userRE st p))∧FsPost F M w b (userRM st p) w':=by
 have H:=Lib.hid h
 have HT:=Lib.hid ht
 have HN:=Lib.hid hn
 have HQ:=Lib.hid hq
 have HN2:=Lib.hid hn2
 have HUS:=Lib.hid hus
 obtain ⟨x,hX,_⟩:=h
 have c7:w.cell? ⟨b,7,none⟩=some (.bool st.down):=hX.blk.cell 7
 obtain ⟨dn,hdn⟩:∃ dn,st.down=dn:=⟨_,rfl⟩
 rw [hdn] at c7
 have HDN:=Lib.hid hdn
 clear ht hn hq hn2 hus hX hdn
 go_enter Tryz.func58,Tryz.ntmps58
 cases dn with
 | true =>
  have HE:Hid (userRE st p=12):=by unfold Hid userRE;rw [if_pos HDN.out]
  have HM:Hid (userRM st p=st):=by unfold Hid userRM;rw [HE.out,if_neg (by decide)]
  go_wp2
  go_ret
  exact ⟨by rw [HE.out];rfl,by rw [HM.out];exact FsPost.refl H.out⟩
 | false =>
  have HE:Hid (userRE st p=dropE st p):=by unfold Hid userRE;rw [if_neg (by rw [HDN.out];decide)]
  go_wp2_with fail
  refine (rdrop_any F M b st p _ H.out hp HT.out HN.out HQ.out).mono ?_
  rintro e w1 ⟨rfl,hpost⟩
  obtain ⟨q,hq⟩:∃ q,dropE st p=q:=⟨_,rfl⟩
  rw [hq]
  have HQQ:=Lib.hid hq
  obtain ⟨M1,hat,hon,hsub⟩:=hpost
  have HAT:=Lib.hid hat
  have HON:=Lib.hid hon
  have HSUB:=Lib.hid hsub
  clear hq hat hon hsub
  by_cases hz:q=0
  ·subst hz
   have HM:Hid (userRM st p={ safeM (dropM st p) with user:=(safeM (dropM st p)).user++[⟨(safeM (dropM st p)).calls,5,0,0,0,p,[]⟩] }):=by unfold Hid userRM;rw [HE.out,HQQ.out,if_pos rfl]
   go_wp2_with fail
   refine (rsafe_any _ M1 b (dropM st p) _ HAT.out HN2.out).mono ?_
   rintro e w2 ⟨rfl,hpost⟩
   obtain ⟨M2,⟨x2,hX2,hM2⟩,hon2,hsub2⟩:=hpost
   have husr:(safeM (dropM st p)).user=st.user:=by unfold safeM dropM;dsimp only;split <;> rfl
   have hcal:(safeM (dropM st p)).calls=st.calls:=by unfold safeM dropM;dsimp only;split <;> rfl
   have q8:w2.cell? ⟨b,8,none⟩=some x2.user:=hX2.blk.cell 8
   have q8f:w2.frozen? ⟨b,8,none⟩=false:=hX2.blk.frozen 8
   have q5:w2.cell? ⟨b,5,none⟩=some (.int .i64 st.calls):=by rw [← hcal];exact hX2.blk.cell 5
   have hblt:b<w2.heap.size:=hX2.blk.lt
   obtain ⟨st2,hst2⟩:∃ st2,safeM (dropM st p)=st2:=⟨_,rfl⟩
   rw [hst2] at hX2 husr hcal HM
   have HCAL:=Lib.hid hcal
   obtain ⟨F2,hF2⟩:∃ F2,F2=grow (grow F w w1 M1) w1 w2 M2:=⟨_,rfl⟩
   rw [← hF2] at hX2
   have HX2:=Lib.hid hX2
   have HM2:=Lib.hid hM2
   have HON2:=Lib.hid hon2
   have HSUB2:=Lib.hid hsub2
   have HF2:=Lib.hid hF2
   have s1:Hid (st2.user.length+[(⟨st.calls,5,0,0,0,p,[]⟩:EvM)].length≤2000000):=by unfold Hid;rw [husr];have:=HUS.out;simp;omega
   clear hX2 hM2 hon2 hsub2 hst2 hF2 husr hcal
   have HPA:=Lib.hid (HX2.out.user.alloc (.cells #[.int .i64 st.calls,.int .i64 5,.int .i64 0,.int .i64 0,.int .i64 0,.string (str p),.slice none 0 0] 110))
   have HLA:=Lib.hid (TmpL.one (K:=evK) (F:=F2) (a:=⟨st.calls,5,0,0,0,p,[]⟩) (d:=.slice none 0 0) (Blk.new w2 110 #[.int .i64 st.calls,.int .i64 5,.int .i64 0,.int .i64 0,.int .i64 0,.string (str p),.slice none 0 0]) rfl (By.nil_ F2 _))
   have HFP:Hid (∀ k,F2 k→k<(w2.alloc (.cells #[.int .i64 st.calls,.int .i64 5,.int .i64 0,.int .i64 0,.int .i64 0,.string (str p),.slice none 0 0] 110)).heap.size):=fun k hk=>by have:=HX2.out.low k hk;simp;omega
   have p8a:(w2.alloc (.cells #[.int .i64 st.calls,.int .i64 5,.int .i64 0,.int .i64 0,.int .i64 0,.string (str p),.slice none 0 0] 110)).cell? ⟨b,8,none⟩=some x2.user:=(HX2.out.blk.alloc _).cell 8
   have p5a:(w2.alloc (.cells #[.int .i64 st.calls,.int .i64 5,.int .i64 0,.int .i64 0,.int .i64 0,.string (str p),.slice none 0 0] 110)).cell? ⟨b,5,none⟩=some (.int .i64 st.calls):=by rw [(HX2.out.blk.alloc _).cell 5,← HX2.out.blk.cell 5];exact q5
   go_upto_region 6 with (fail)
   go_cut [] (fun wx=>FsPost F M w b (userRM st p) wx)
   case first =>
    go_region_law (refine step_appendL typed_ev (v:=x2.user) (ex:=.slice (some ⟨w2.heap.size,0,none⟩) 1 1) (l2:=[⟨st.calls,5,0,0,0,p,[]⟩]) rfl (.tmp 21) (.tmp 28) rfl (by first | exact HPA.out.drew | exact HPA.out) (by first | exact HLA.out.drew | exact HLA.out) (by rfl) (by rfl) s1.out (by exact Nat.zero_le _) (by exact HFP.out) ?_;intro v5 w5 ho5 hg5 hk5;obtain ⟨A5,c5,hv5,_,_⟩:=ho5.tmp.slice;subst hv5;have hb5:Blk w5 b 73 (fsC st2 x2):=(HX2.out.blk.alloc _).drew.grown hg5 (fun e=>HX2.out.u_ne e.symm);have y8:w5.cell? ⟨b,8,none⟩=some x2.user:=hb5.cell 8;have y8f:w5.frozen? ⟨b,8,none⟩=false:=hb5.frozen 8;have HO5:=Lib.hid ho5;have HG5:=Lib.hid hg5;have HK5:=Lib.hid hk5;clear ho5 hg5 hk5 hb5)
    all_goals
     have hf:=user_fin (F':=F2) HX2.out HM2.out (((Below.refl _ _).alloc (Nat.le_refl _) _).drew) (fun k hk=>.inl hk) HG5.out HO5.out HK5.out
     rw [HF2.out] at hf
     have h12:=FsPost.trans HON2.out HSUB2.out hf
     have h01:=FsPost.trans HON.out HSUB.out h12
     have HFIN:=Lib.hid h01
     clear hf h12 h01
     go_wp2_with fail
     go_meet
     have hfin:=HFIN.out
     rw [← HCAL.out] at hfin
     rw [HM.out,← HCAL.out]
     exact hfin
   case rest =>
    have HFIN:=Lib.hid hcut
    clear hcut
    go_wp2_with fail
    go_ret
    exact ⟨by rw [HE.out,HQQ.out];rfl,HFIN.out⟩
  ·have e1:(q==0)=false:=by rw [beq_eq_false_iff_ne];exact hz
   have HM:Hid (userRM st p=st):=by unfold Hid userRM;rw [HE.out,HQQ.out,if_neg hz]
   have HPM:Hid (dropM st p=st):=by unfold Hid dropM;rw [HQQ.out,if_neg hz]
   clear hz
   go_wp2_with fail
   go_ret
   refine ⟨by rw [HE.out,HQQ.out];rfl,?_⟩
   rw [HM.out]
   have:=HAT.out
   rw [HPM.out] at this
   exact ⟨M1,this,HON.out,HSUB.out⟩
set_option maxRecDepth 100000 in
set_option maxHeartbeats 6400000 in
theorem ruserw_any (F M:Nat→Prop) (b:Nat) (st:FSM) (p:List UInt8) (mode:Int) (dv:Value) (data:List UInt8) (w:World) (h:RefAt F w b st M) (G:Nat→Prop) (hdv:By G w dv data) (hG:∀ k,G k→¬ M k) (hp:p.length≤1000000) (hR:∀ r∈st.now,r.path.length≤1000000) (hu:usedM st.now≤4000000000000) (ht:0≤st.time∧st.time≤4000000000000) (hn:st.now.length≤1000000) (hq:st.pending.length≤1000000) (hn2:(putM st p mode data false false 1152921504606846976).now.length≤1000000) (hus:st.user.length≤1000000) :
  Calls Tryz.prog 56 #[.pointer (some ⟨b,0,none⟩),.string (str p),.int .i64 mode,dv] w fun e w'=>e=.returned (.int .i64 (userWE st p mode data))∧FsPost F M w b (userWM st p mode data) w':=by
 have H:=Lib.hid h
 have HT:=Lib.hid ht
 have HN:=Lib.hid hn
 have HQ:=Lib.hid hq
 have HN2:=Lib.hid hn2
 have HUS:=Lib.hid hus
 obtain ⟨dA,dc,rfl,hd1,hd2⟩:=hdv.slice
 have HDV:=Lib.hid hdv
 clear hdv hd1 hd2
 obtain ⟨x,hX,_⟩:=h
 have c7:w.cell? ⟨b,7,none⟩=some (.bool st.down):=hX.blk.cell 7
 obtain ⟨dn,hdn⟩:∃ dn,st.down=dn:=⟨_,rfl⟩
 rw [hdn] at c7
 have HDN:=Lib.hid hdn
 clear ht hn hq hn2 hus hX hdn
 go_enter Tryz.func56,Tryz.ntmps56
 cases dn with
 | true =>
  have HE:Hid (userWE st p mode data=12):=by unfold Hid userWE;rw [if_pos HDN.out]
  have HM:Hid (userWM st p mode data=st):=by unfold Hid userWM;rw [HE.out,if_neg (by decide)]
  go_wp2
  go_ret
  exact ⟨by rw [HE.out];rfl,by rw [HM.out];exact FsPost.refl H.out⟩
 | false =>
  have HE:Hid (userWE st p mode data=putE st p mode data false false 1152921504606846976):=by unfold Hid userWE;rw [if_neg (by rw [HDN.out];decide)]
  go_wp2_with fail
  refine (rput_any F M b st p mode _ data false false 1152921504606846976 _ H.out HDV.out.slv hp hR hu HT.out HN.out HQ.out).mono ?_
  rintro e w1 ⟨rfl,hpost⟩
  obtain ⟨q,hq⟩:∃ q,putE st p mode data false false 1152921504606846976=q:=⟨_,rfl⟩
  rw [hq]
  have HQQ:=Lib.hid hq
  obtain ⟨M1,hat,hon,hsub⟩:=hpost
  have HDV1:=Lib.hid (By.only (F:=fun k=>G k∧k<w.heap.size) HDV.out.bound hon (fun k hk=>hG k hk.1))
  have HG1:Hid (∀ k,(G k∧k<w.heap.size)→¬ M1 k):=fun k hk hm=>by
   rcases hsub k hm with h | h
   ·exact hG k hk.1 h
   ·omega
  have hz1:=hon.size
  have HAT:=Lib.hid hat
  have HON:=Lib.hid hon
  have HSUB:=Lib.hid hsub
  clear hq hat hon hsub
  by_cases hz:q=0
  ·subst hz
   have HM:Hid (userWM st p mode data={ safeM (putM st p mode data false false 1152921504606846976) with user:=(safeM (putM st p mode data false false 1152921504606846976)).user++[⟨(safeM (putM st p mode data false false 1152921504606846976)).calls,4,mode,0,0,p,data⟩] }):=by unfold Hid userWM;rw [HE.out,HQQ.out,if_pos rfl]
   go_wp2_with fail
   refine (rsafe_any _ M1 b (putM st p mode data false false 1152921504606846976) _ HAT.out HN2.out).mono ?_
   rintro e w2 ⟨rfl,hpost⟩
   obtain ⟨M2,⟨x2,hX2,hM2⟩,hon2,hsub2⟩:=hpost
   have husr:(safeM (putM st p mode data false false 1152921504606846976)).user=st.user:=by unfold safeM putM;dsimp only;split <;> rfl
   have hcal:(safeM (putM st p mode data false false 1152921504606846976)).calls=st.calls:=by unfold safeM putM;dsimp only;split <;> rfl
   have q8:w2.cell? ⟨b,8,none⟩=some x2.user:=hX2.blk.cell 8
   have q8f:w2.frozen? ⟨b,8,none⟩=false:=hX2.blk.frozen 8
   have q5:w2.cell? ⟨b,5,none⟩=some (.int .i64 st.calls):=by rw [← hcal];exact hX2.blk.cell 5
   have hblt:b<w2.heap.size:=hX2.blk.lt
   obtain ⟨st2,hst2⟩:∃ st2,safeM (putM st p mode data false false 1152921504606846976)=st2:=⟨_,rfl⟩
   rw [hst2] at hX2 husr hcal HM
   have HCAL:=Lib.hid hcal
   obtain ⟨F2,hF2⟩:∃ F2,F2=grow (grow F w w1 M1) w1 w2 M2:=⟨_,rfl⟩
   rw [← hF2] at hX2
   have HX2:=Lib.hid hX2
   have HM2:=Lib.hid hM2
   have HON2:=Lib.hid hon2
   have HSUB2:=Lib.hid hsub2
   have HF2:=Lib.hid hF2
   have s1:Hid (st2.user.length+[(⟨st.calls,4,mode,0,0,p,data⟩:EvM)].length≤2000000):=by unfold Hid;rw [husr];have:=HUS.out;simp;omega
   have HDV2:=Lib.hid (HDV1.out.only hon2 HG1.out)
   have hdl:=putE_len HQQ.out
   have HDL:Hid (data.length≤2000000):=by unfold Hid;omega
   clear hdl
   clear hX2 hM2 hon2 hsub2 hst2 hF2 husr hcal
   go_upto_region 6 with (fail)
   go_cut [] (fun wx=>FsPost F M w b (userWM st p mode data) wx)
   case first =>
    go_region_law (first
     | (refine step_appendL typed_ev (v:=x2.user) (ex:=.slice (some ⟨w4.heap.size,0,none⟩) 1 1) (l2:=[⟨st.calls,4,mode,0,0,p,data⟩]) rfl (.tmp 27) (.tmp 37) rfl (by with_reducible exact HPA.out) (by with_reducible exact HLA.out) (by rfl) (by rfl) s1.out (by exact Nat.zero_le _) (by exact HFP.out) ?_;intro v5 w5 ho5 hg5 hk5;obtain ⟨A5,c5,hv5,_,_⟩:=ho5.tmp.slice;subst hv5;have hb5:Blk w5 b 73 (fsC st2 x2):=HBA.out.grown hg5 (fun e=>HX2.out.u_ne e.symm);have y8:w5.cell? ⟨b,8,none⟩=some x2.user:=hb5.cell 8;have y8f:w5.frozen? ⟨b,8,none⟩=false:=hb5.frozen 8;have HO5:=Lib.hid ho5;have HG5:=Lib.hid hg5;have HK5:=Lib.hid hk5;clear ho5 hg5 hk5 hb5)
     | (refine step_enter rfl 46 #[.slice dA data.length dc] (by go_simp) (rcopyb_any _ data _ (by exact HDV2.out.slv) HDL.out) ?_;rintro e w4 ⟨v4,rfl,ho4,hb4⟩;obtain ⟨A4,c4,rfl,g1,g2⟩:=ho4.length;rw [List.length_map] at ho4 ⊢;refine ⟨_,rfl,?_⟩;have hb4':Below w2.heap.size w2 w4:=⟨hb4.os,hb4.tape,hb4.output,hb4.size,hb4.block⟩;obtain ⟨hc4,hca,b4a,hpa,hla,hfp⟩:=user_pre (e:=⟨st.calls,4,mode,0,0,p,data⟩) (cs:=#[.int .i64 st.calls,.int .i64 4,.int .i64 mode,.int .i64 0,.int .i64 0,.string (str p),(.slice A4 data.length c4)]) HX2.out hb4' (by exact ho4) rfl rfl;have p8:w4.cell? ⟨b,8,none⟩=some x2.user:=(hc4 8).trans q8;have p5:w4.cell? ⟨b,5,none⟩=some (.int .i64 st.calls):=(hc4 5).trans q5;have p8a:(w4.alloc (.cells #[.int .i64 st.calls,.int .i64 4,.int .i64 mode,.int .i64 0,.int .i64 0,.string (str p),(.slice A4 data.length c4)] 110)).cell? ⟨b,8,none⟩=some x2.user:=(hca 8).trans q8;have p5a:(w4.alloc (.cells #[.int .i64 st.calls,.int .i64 4,.int .i64 mode,.int .i64 0,.int .i64 0,.string (str p),(.slice A4 data.length c4)] 110)).cell? ⟨b,5,none⟩=some (.int .i64 st.calls):=(hca 5).trans q5;have HPA:=Lib.hid hpa;have HLA:=Lib.hid hla;have HFP:=Lib.hid hfp;have HBA:=Lib.hid b4a;have HB4:=Lib.hid hb4';clear ho4 hb4 hb4' b4a hpa hla hfp g1 g2 hc4 hca))
    all_goals
     have hf:=user_fin HX2.out HM2.out (HB4.out.alloc HB4.out.size (.cells #[.int .i64 st.calls,.int .i64 4,.int .i64 mode,.int .i64 0,.int .i64 0,.string (str p),(.slice A4 data.length c4)] 110)) (fun k hk=>hk.imp id (fun h=>⟨h.1,by have h2:=h.2;simp;omega⟩)) HG5.out HO5.out HK5.out
     rw [HF2.out] at hf
     have h12:=FsPost.trans HON2.out HSUB2.out hf
     have h01:=FsPost.trans HON.out HSUB.out h12
     have HFIN:=Lib.hid h01
     clear hf h12 h01
     go_wp2_with fail
     go_meet
     have hfin:=HFIN.out
     rw [← HCAL.out] at hfin
     rw [HM.out,← HCAL.out]
     exact hfin
   case rest =>
    have HFIN:=Lib.hid hcut
    clear hcut
    go_wp2_with fail
    go_ret
    exact ⟨by rw [HE.out,HQQ.out];rfl,HFIN.out⟩
  ·have e1:(q==0)=false:=by rw [beq_eq_false_iff_ne];exact hz
   have HM:Hid (userWM st p mode data=st):=by unfold Hid userWM;rw [HE.out,HQQ.out,if_neg hz]
   have HPM:Hid (putM st p mode data false false 1152921504606846976=st):=by unfold Hid putM;rw [HQQ.out,if_neg hz]
   clear hz
   go_wp2_with fail
   go_ret
   refine ⟨by rw [HE.out,HQQ.out];rfl,?_⟩
   rw [HM.out]
   have:=HAT.out
   rw [HPM.out] at this
   exact ⟨M1,this,HON.out,HSUB.out⟩
end Go.Proofs.YtlkolcokjmlmjaaGreat.Tx
namespace Go.Proofs.YtlkolcokjmlmjaaGreat.Tx
open Go.RowKit Go.Proofs.YtlkolcokjmlmjaaGreat.Sh
theorem cell_fin {F M:Nat→Prop} {w:World} {b:Nat} {st st':FSM} {x:FsV} (i:Nat) (u:Value) (hX:RefX F w b st x) (hM:∀ k,M k↔fsM b x k) (hst:(fsC st x).setIfInBounds i u=fsC st' x) (h1:st'.now=st.now) (h2:st'.sure=st.sure) (h3:st'.pending=st.pending) (h4:st'.plan=st.plan) (h5:st'.user=st.user) :
  FsPost F M w b st' (w.setCell ⟨b,i,none⟩ u):=by
 have ob:Only (fun k=>k=b) w (w.setCell ⟨b,i,none⟩ u):=Only.set_ (M:=fun k=>k=b) (g:=b) (i:=i) (Only.refl _ w) (.inl rfl) u
 have hFb:∀ k,F k→¬ (k=b):=fun k hk e=>hX.self (by rw [← e];exact hk)
 have hun:∀ k,x.user.ownBlock=some k→¬ (k=b):=fun k hk e=>hX.u_ne (by rw [hk,e])
 have hpn:∀ k,x.pending.ownBlock=some k→¬ (k=b):=fun k hk e=>hX.p_ne (by rw [hk,e])
 refine fs_fin (x':=x) hX hM (ob.more (fun k _ h=>.inl h)) (fun k h=>.inl h) (by rw [← hst];exact hX.blk.set_ i u) ?_ ?_ ?_ ?_ ?_
 ·rw [h1];exact (hX.now.only ob hFb).mono (fun k _ hk=>.inl hk)
 ·rw [h2];exact (hX.sure.only ob hFb).mono (fun k _ hk=>.inl hk)
 ·rw [h3];exact (hX.pending.only ob hFb hpn).toG (fun k _ hk=>.inl hk) (fun k hk=>.inr (.inl hk)) hX.pending.2
 ·rw [h4];exact (hX.plan.only ob hFb).mono (fun k _ hk=>.inl hk)
 ·rw [h5];exact (hX.user.only ob hFb hun).toG (fun k _ hk=>.inl hk) (fun k hk=>.inr (.inr hk)) hX.user.2
theorem now_fin {F M:Nat→Prop} {w wl:World} {b:Nat} {st:FSM} {x:FsV} {v:Value} {l:List RowM} (hX:RefX F w b st x) (hM:∀ k,M k↔fsM b x k) (hl:Below w.heap.size w wl) (hv:RowsIn (fun k=>F k∨(w.heap.size≤k∧k<wl.heap.size)) wl v l) :
  FsPost F M w b { st with now:=l } (wl.setCell ⟨b,1,none⟩ v):=by
 have hbw:=hX.blk.lt
 have hz:=hl.size
 have hwz:(wl.setCell ⟨b,1,none⟩ v).heap.size=wl.heap.size:=by simp [World.setCell]
 have ob:Only (fun k=>k=b) w (wl.setCell ⟨b,1,none⟩ v):=Only.set_ (M:=fun k=>k=b) (g:=b) (i:=1) (Only.of_below hl) (.inl rfl) v
 have hFb:∀ k,F k→¬ (k=b):=fun k hk e=>hX.self (by rw [← e];exact hk)
 have hun:∀ k,x.user.ownBlock=some k→¬ (k=b):=fun k hk e=>hX.u_ne (by rw [hk,e])
 have hpn:∀ k,x.pending.ownBlock=some k→¬ (k=b):=fun k hk e=>hX.p_ne (by rw [hk,e])
 refine fs_fin (x':={ x with now:=v }) hX hM (ob.more (fun k _ h=>.inl h)) (fun k h=>.inl h) ((hX.blk.below hl hbw).set_ 1 v) ?_ ((hX.sure.only ob hFb).mono (fun k _ hk=>.inl hk)) ((hX.pending.only ob hFb hpn).toG (fun k _ hk=>.inl hk) (fun k hk=>.inr (.inl hk)) hX.pending.2) ((hX.plan.only ob hFb).mono (fun k _ hk=>.inl hk)) ((hX.user.only ob hFb hun).toG (fun k _ hk=>.inl hk) (fun k hk=>.inr (.inr hk)) hX.user.2)
 refine (hv.only (Only.set_ (M:=fun k=>k=b) (g:=b) (i:=1) (Only.refl _ wl) (.inl rfl) v) (fun k hk e=>?_)).mono (fun k hk hf=>?_)
 ·rcases hk with hk | hk
  ·exact hFb k hk e
  ·omega
 ·rcases hf with hf | hf
  ·exact .inl hf
  ·exact .inr ⟨hf.1,hk,fun hm=>by have:=hX.lt k hm;omega⟩
theorem apply_len (R:List RowM) (o:OpM):(applyM R o).length≤R.length+1:=by
 have hw:∀ (R:List RowM) p f,(withM R p f).length≤R.length+1:=fun R p f=>by
  unfold withM
  have:=without_le R p
  simp only [List.length_append,List.length_take,List.length_drop,List.length_singleton]
  omega
 unfold applyM
 split
 ·exact hw _ _ _
 ·split
  ·split
   ·omega
   ·split
    ·omega
    ·have h1:=hw (withoutM R o.fr) o.to
     rename_i r _
     have h2:=h1 r.f
     have h3:=without_le R o.fr
     omega
  ·have:=without_le R o.fr;omega
theorem again_next {st:FSM} {k:Nat} {o:OpM} (h:st.pending[k]?=some o):againM st (k+1)=applyM (againM st k) o:=by
 unfold againM
 obtain ⟨hl,e⟩:=List.getElem?_eq_some_iff.1 h
 rw [List.take_succ_eq_append_getElem hl,List.foldl_append,e]
 rfl
theorem again_len (st:FSM):∀ k,(againM st k).length≤st.sure.length+k
 | 0=>by simp [againM]
 | k+1=>by
  have ih:=again_len st k
  cases h:st.pending[k]? with
  | none =>
   have hl:st.pending.length≤k:=by simpa using h
   have e:againM st (k+1)=againM st k:=by
    unfold againM
    rw [List.take_of_length_le hl,List.take_of_length_le (by omega)]
   rw [e];omega
  | some o =>
   rw [again_next h]
   have:=apply_len (againM st k) o
   omega
def OpsTmp (F:Nat→Prop) (w:World) (v:Value) (l:List OpM):Prop:=TmpL opK F w v l
theorem RefX.ops {F:Nat→Prop} {w:World} {b:Nat} {st:FSM} {x:FsV} (h:RefX F w b st x):∃ (A:Option Addr) (c:Nat),x.pending=.slice A st.pending.length c∧st.pending.length≤c∧c≤maxLen∧OpsTmp F w (.slice A st.pending.length c) st.pending:=by
 obtain ⟨A,c,h1,h2,h3⟩:=h.pending.tmp.slice
 refine ⟨A,c,h1,h2,h3,?_⟩
 have:=h.pending.tmp
 rw [h1] at this
 exact this
theorem OpsTmp.below {F:Nat→Prop} {w w':World} {v:Value} {l:List OpM} (h:OpsTmp F w v l) (hb:Below w.heap.size w w'):OpsTmp F w' v l:=TmpL.below h hb
theorem op_cells {F:Nat→Prop} {w:World} {A:Option Addr} {n c:Nat} {l:List OpM} (h:OpsTmp F w (.slice A n c) l) (k:Nat) (o:OpM) (hk:l[k]?=some o) :
  ∃ (ad:Addr) (dA:Option Addr) (dc:Nat),A=some ad∧By F w (.slice dA o.f.data.length dc) o.f.data∧o.f.data.length≤dc∧dc≤maxLen∧w.cell? (ad.add (k*6))=some (.int .i64 o.kind)∧w.cell? ⟨(ad.add (k*6)).block,(ad.add (k*6)).off+1,none⟩=some (.string (str o.fr)) ∧
   w.cell? ⟨(ad.add (k*6)).block,(ad.add (k*6)).off+2,none⟩=some (.string (str o.to))∧w.cell? ⟨(ad.add (k*6)).block,(ad.add (k*6)).off+3,none⟩=some (.int .i64 o.f.mode) ∧
   w.cell? ⟨(ad.add (k*6)).block,(ad.add (k*6)).off+4,none⟩=some (.slice dA o.f.data.length dc)∧w.cell? ⟨(ad.add (k*6)).block,(ad.add (k*6)).off+5,none⟩=some (.int .i64 o.f.time):=by
 obtain ⟨ad,d,hA,hby,hc⟩:=TmpL.at_ h k o hk
 obtain ⟨dA,dc,rfl,g1,g2⟩:=By.slice (bs:=o.f.data) hby
 have e:∀ j u,0<j→(opK.cells o (.slice dA o.f.data.length dc))[j]?=some u→w.cell? ⟨(ad.add (k*6)).block,(ad.add (k*6)).off+j,none⟩=some u:=fun j u hj hu=>by
  rw [← add_field _ _ j hj];exact hc j u hu
 exact ⟨ad,dA,dc,hA,hby,g1,g2,hc 0 _ rfl,e 1 _ (by decide) rfl,e 2 _ (by decide) rfl,e 3 _ (by decide) rfl,e 4 _ (by decide) rfl,e 5 _ (by decide) rfl⟩
theorem size_byte (w:World):(sizeOf (Tryz.prog.elem 32)).run Tryz.prog w=.ok 1 w:=by kernel_rfl
set_option maxRecDepth 100000 in
theorem bytes_front (A:Option Addr) (l c k:Nat) (hkc:k≤c) (w:World):(Instr.slice 32 (.slice A l c) none (some (.int .i64 (k:Int))) none).run Tryz.prog w=.ok (.slice A k c) w:=by
 rw [run_slice_h w 32 A l c Tryz.underlying32 .i64 k (by omega) (by omega),size_byte]
 simp only [Result.andThen_ok,sliced,Int.toNat_natCast]
 by_cases h:c=0
 ·subst h;simp
 ·have e:A.map (fun a=>a.add 0)=A:=by cases A <;> simp [Addr.add]
  simp [h,e]
theorem By.take {F:Nat→Prop} {w:World} {A:Option Addr} {n c:Nat} {bs:List UInt8} (h:By F w (.slice A n c) bs) (k:Nat) (hk:k≤n):By F w (.slice A k c) (bs.take k):=by
 obtain ⟨A',c',hv,h1,h2,h3,h4,h5⟩:=h
 injection hv with e1 e2 e3
 subst e1 e3
 have hl:(bs.take k).length=k:=by rw [List.length_take];omega
 refine ⟨A,c,by rw [hl],by rw [hl];omega,h2,by simp,fun e=>by rw [hl];have:=h4 e;omega,fun hn=>?_⟩
 obtain ⟨ad,e,hf,hlt,hc⟩:=h5 (by rw [hl] at hn;omega)
 refine ⟨ad,e,hf,hlt,fun j u hu=>hc j u ?_⟩
 rw [List.map_take,List.getElem?_take] at hu
 split at hu
 ·exact hu
 ·cases hu
end Go.Proofs.YtlkolcokjmlmjaaGreat.Tx
namespace Go.Proofs.YtlkolcokjmlmjaaGreat.Tx
open Go.RowKit Go.Proofs.YtlkolcokjmlmjaaGreat.Sh
def keepM (st:FSM) (keep:Int):Nat:=(min (max keep 0) (st.pending.length:Int)).toNat
def tornM (st:FSM) (keep torn:Int):List RowM:=match st.pending[keepM st keep]? with
 | none=>againM st (keepM st keep)
 | some o=>if o.kind=1∧0≤torn∧torn<(o.f.data.length:Int) then applyM (againM st (keepM st keep)) { o with f:={ o.f with data:=o.f.data.take torn.toNat } } else againM st (keepM st keep)
def tornB (st:FSM) (keep torn:Int):Bool:=match st.pending[keepM st keep]? with
 | none=>false
 | some o=>decide (o.kind=1∧0≤torn∧torn<(o.f.data.length:Int))
theorem torn_no {st:FSM} {keep torn:Int} (h:tornB st keep torn=false):tornM st keep torn=againM st (keepM st keep):=by
 unfold tornB at h
 unfold tornM
 split
 ·rfl
 ·rename_i o ho
  rw [ho] at h
  rw [if_neg (by simpa using h)]
theorem torn_yes {st:FSM} {keep torn:Int} (h:tornB st keep torn=true):∃ o,st.pending[keepM st keep]?=some o∧o.kind=1∧0≤torn∧torn<(o.f.data.length:Int)∧tornM st keep torn=applyM (againM st (keepM st keep)) { o with f:={ o.f with data:=o.f.data.take torn.toNat } }:=by
 unfold tornB at h
 split at h
 ·cases h
 ·rename_i o ho
  have h':=of_decide_eq_true h
  refine ⟨o,ho,h'.1,h'.2.1,h'.2.2,?_⟩
  unfold tornM
  rw [ho]
  simp only [if_pos h']
theorem crash_down {st:FSM} (h:st.down=true) (keep torn:Int):crashM st keep torn=st:=by unfold crashM;rw [if_pos h]
theorem crash_up {st:FSM} (h:st.down=false) (keep torn:Int):crashM st keep torn={ safeM { st with now:=tornM st keep torn } with down:=true }:=by
 unfold crashM
 rw [if_neg (by rw [h];decide)]
 rfl
def NewRows (F:Nat→Prop) (w:World) (v:Value) (l:List RowM) (wx:World):Prop:=RowsIn (fun k=>F k∨(w.heap.size≤k∧k<wx.heap.size)) wx v l∧Below w.heap.size w wx
set_option maxRecDepth 100000 in
set_option maxHeartbeats 6400000 in
theorem rcrash_any (F M:Nat→Prop) (b:Nat) (st:FSM) (keep torn:Int) (w:World) (h:RefAt F w b st M) (hs:st.sure.length+st.pending.length≤900000) (hd:∀ o∈st.pending,o.f.data.length≤1000000) :
  Calls Tryz.prog 60 #[.pointer (some ⟨b,0,none⟩),.int .i64 keep,.int .i64 torn] w fun e w'=>e=.returned (.tuple #[])∧FsPost F M w b (crashM st keep torn) w':=by
 have H:=Lib.hid h
 obtain ⟨x,hX,hM⟩:=h
 have c7:w.cell? ⟨b,7,none⟩=some (.bool st.down):=hX.blk.cell 7
 obtain ⟨dn,hdn⟩:∃ dn,st.down=dn:=⟨_,rfl⟩
 rw [hdn] at c7
 have HDN:=Lib.hid hdn
 have HX:=Lib.hid hX
 have HMM:=Lib.hid hM
 have HS:=Lib.hid hs
 have HD:=Lib.hid hd
 have hblt:=hX.blk.lt
 clear hX hM hdn hs hd
 cases dn with
 | true =>
  have HC:=Lib.hid (crash_down HDN.out keep torn)
  go_enter Tryz.func60,Tryz.ntmps60
  go_wp2
  refine bodyPost_ret (v:=.tuple #[]) (by simp [results,Tryz.results60,go_sem]) rfl ⟨rfl,?_⟩
  rw [HC.out]
  exact FsPost.refl H.out
 | false =>
  have HC:=Lib.hid (crash_up HDN.out keep torn)
  have c2:w.cell? ⟨b,2,none⟩=some x.sure:=HX.out.blk.cell 2
  obtain ⟨PA,pc,hPA,hpc1,hpc2,hptmp⟩:=HX.out.ops
  have c3:w.cell? ⟨b,3,none⟩=some (.slice PA st.pending.length pc):=by rw [← hPA];exact HX.out.blk.cell 3
  obtain ⟨pl,hpl⟩:∃ pl,st.pending.length=pl:=⟨_,rfl⟩
  rw [hpl] at c3 hpc1 hptmp
  unfold maxLen at hpc2
  obtain ⟨n,hn⟩:∃ n,keepM st keep=n:=⟨_,rfl⟩
  have hmm:min (max keep 0) (pl:Int)=(n:Int):=by rw [← hn,← hpl];unfold keepM;omega
  obtain ⟨mx,hmx⟩:∃ mx,(if keep<0 then 0 else keep)=mx:=⟨_,rfl⟩
  have hmx2:max keep 0=mx:=by rw [← hmx];split <;> omega
  have hmm2:(if (pl:Int)<mx then (pl:Int) else mx)=(n:Int):=by rw [hmx2] at hmm;split <;> omega
  rw [hmx2] at hmm
  have hnp:n≤pl:=by omega
  have hpl9:pl≤900000:=by have:=HS.out;omega
  have HN:=Lib.hid hn
  have HPL:=Lib.hid hpl
  have HPT:=Lib.hid hptmp
  have HB0:Hid (NewRows F w x.sure (againM st 0) w):=⟨HX.out.sure.mono (fun k _ hk=>.inl hk),Below.refl _ _⟩
  have HBL:Hid (∀ W,Below w.heap.size w W→W.cell? ⟨b,3,none⟩=some (.slice PA pl pc)):=fun W hW=>by
   rw [(HX.out.blk.below hW hblt).cell 3,← HX.out.blk.cell 3];exact c3
  obtain ⟨SA,sc,hSA,_,_⟩:=HX.out.sure.slice
  clear hn hpl hptmp hPA
  go_enter Tryz.func60,Tryz.ntmps60
  go_upto_block 0 with (fail)
  go_cut [6,8] (fun v i wx=>NewRows F w v (againM st n) wx)
  case first =>
   go_wp2_with fail
   go_loopw [6,8] (fun v i wr=>∃ k:Nat,k≤n∧i=.int .i64 k∧NewRows F w v (againM st k) wr) (fun _ i _=>n - (intOf i).toNat)
   case atStart=>exact ⟨0,Nat.zero_le _,rfl,by rw [← hSA];exact HB0.out⟩
   case round =>
    obtain ⟨k,hk,rfl,hnr⟩:=hrel
    have HNR:=Lib.hid hnr
    have hwz:=hnr.2.size
    have k0:(0:Int)≤(k:Int):=by omega
    have q3:=HBL.out _ hnr.2
    clear hnr
    by_cases hlt:k<n
    ·have k1:(k:Int)<(n:Int):=by omega
     have k2:(k:Int)<(pl:Int):=by omega
     obtain ⟨o,ho⟩:∃ o,st.pending[k]?=some o:=⟨_,List.getElem?_eq_getElem (by rw [HPL.out];omega)⟩
     obtain ⟨ad,dA,dc,rfl,hby,hd1,hd2,x0,x1,x2,x3,x4,x5⟩:=op_cells (HPT.out.below HNR.out.2) k o ho
     have HNX:=Lib.hid (again_next ho)
     have HBY:=Lib.hid (hby.mono (F':=fun k=>F k∨(w.heap.size≤k∧k<wr.heap.size)) (fun _ _ hk=>.inl hk))
     have HRL:Hid ((againM st k).length≤1000000):=by unfold Hid;have:=again_len st k;have:=HS.out;rw [HPL.out] at this;omega
     have HFF:=Lib.hid (f2_lt (a:=w.heap.size) (fun k hk=>Nat.lt_of_lt_of_le (HX.out.low k hk) hwz))
     unfold maxLen at hd2
     clear ho hby
     go_wp2_with fail
     refine (rapply_any _ _ (againM st k) o (.slice dA o.f.data.length dc) _ HNR.out.1 HRL.out HBY.out HFF.out).mono ?_
     rintro e w2 ⟨v2,rfl,hi2,hb2⟩
     have HI2:=Lib.hid hi2
     have HB2:=Lib.hid hb2
     clear hi2 hb2
     go_wp2_with fail
     go_roundw
     case rel =>
      refine ⟨k+1,by omega,by go_num,?_,HNR.out.2.trans (HB2.out.mono hwz)⟩
      rw [HNX.out]
      refine HI2.out.mono (fun j hj hf=>?_)
      rcases hf with (hf | hf) | hf
      ·exact .inl hf
      ·exact .inr ⟨hf.1,hj⟩
      ·exact .inr ⟨by omega,hj⟩
     case measure=>simp [intOf];omega
    ·obtain rfl:k=n:=by omega
     go_wp2_with fail
     go_meet
     exact HNR.out
  case rest =>
   obtain ⟨wl,hwl⟩:∃ wl,wl=wc:=⟨_,rfl⟩
   subst hwl
   have HNR:=Lib.hid hcut
   have hwz:=hcut.2.size
   have q3:=HBL.out _ hcut.2
   obtain ⟨LA,lc,rfl,_,_⟩:=hcut.1.slice
   clear hcut
   go_upto_region 7 with (fail)
   go_cut [75] (fun c wx=>c=.bool (tornB st keep torn)∧wl=wx)
   case first =>
    by_cases hnl:n<pl
    ·have k2:(n:Int)<(pl:Int):=by omega
     obtain ⟨o,ho⟩:∃ o,st.pending[n]?=some o:=⟨_,List.getElem?_eq_getElem (by rw [HPL.out];omega)⟩
     obtain ⟨ad,dA,dc,rfl,hby,hd1,hd2,x0,x1,x2,x3,x4,x5⟩:=op_cells (HPT.out.below HNR.out.2) n o ho
     have HTM:Hid (tornB st keep torn=decide (o.kind=1∧0≤torn∧torn<(o.f.data.length:Int))):=by
      unfold Hid tornB
      rw [HN.out,ho]
     have hdl:=HD.out o (List.mem_of_getElem? ho)
     obtain ⟨q,hq⟩:∃ q,o.kind=q:=⟨_,rfl⟩
     obtain ⟨dl,hdl2⟩:∃ dl,o.f.data.length=dl:=⟨_,rfl⟩
     rw [hq] at x0
     rw [hdl2] at hd1 x4 hdl
     have hby':=hby
     rw [hdl2] at hby'
     have HQ:=Lib.hid hq
     have HDL:=Lib.hid hdl2
     have HBY:=Lib.hid (hby'.mono (F':=fun k=>F k∨(w.heap.size≤k∧k<wl.heap.size)) (fun _ _ hk=>.inl hk))
     unfold maxLen at hd2
     have n0:(0:Int)≤(n:Int):=by omega
     have d0:(0:Int)≤(dl:Int):=by omega
     clear ho hby hby' hq hdl2
     by_cases h1:q=1
     ·subst h1
      by_cases h2:0≤torn
      ·obtain ⟨tn,rfl⟩:∃ tn:Nat,torn=(tn:Int):=⟨torn.toNat,by omega⟩
       by_cases h3:tn<dl
       ·have z3:(tn:Int)<(dl:Int):=by omega
        have HR:Hid (tornB st keep tn=true):=by unfold Hid;rw [HTM.out];exact decide_eq_true ⟨HQ.out,h2,by rw [HDL.out];exact z3⟩
        go_wp2_with fail
        go_meet
        exact ⟨by rw [HR.out],rfl⟩
       ·have z3:(dl:Int)≤(tn:Int):=by omega
        have HR:Hid (tornB st keep tn=false):=by unfold Hid;rw [HTM.out];exact decide_eq_false (by rw [HDL.out];omega)
        go_wp2_with fail
        go_meet
        exact ⟨by rw [HR.out],rfl⟩
      ·have z2:torn<0:=by omega
       have HR:Hid (tornB st keep torn=false):=by unfold Hid;rw [HTM.out];exact decide_eq_false (by omega)
       clear h2
       go_wp2_with fail
       go_meet
       exact ⟨by rw [HR.out],rfl⟩
     ·have e1:(q==1)=false:=by rw [beq_eq_false_iff_ne];exact h1
      have HR:Hid (tornB st keep torn=false):=by unfold Hid;rw [HTM.out];exact decide_eq_false (by rw [HQ.out];exact fun h=>h1 h.1)
      clear h1
      go_wp2_with fail
      go_meet
      exact ⟨by rw [HR.out],rfl⟩
    ·obtain rfl:n=pl:=by omega
     have HR:Hid (tornB st keep torn=false):=by
      unfold Hid tornB
      rw [HN.out,List.getElem?_eq_none (by rw [HPL.out];exact Nat.le_refl _)]
     clear hnl
     go_wp2_with fail
     go_meet
     exact ⟨by rw [HR.out],rfl⟩
   case rest =>
    obtain ⟨rfl,rfl⟩:=hcut
    obtain ⟨tb,htb⟩:∃ tb,tornB st keep torn=tb:=⟨_,rfl⟩
    rw [htb]
    have HTB:=Lib.hid htb
    clear htb
    go_upto_if 75 with (fail)
    go_cut [6] (fun v wx=>NewRows F w v (tornM st keep torn) wx)
    case first =>
     cases tb with
     | false =>
      have HR:=Lib.hid (torn_no HTB.out)
      go_wp2_with fail
      go_meet
      rw [HR.out,HN.out]
      exact HNR.out
     | true =>
      have HRL:Hid ((againM st n).length≤1000000):=by unfold Hid;have:=again_len st n;have:=HS.out;rw [HPL.out] at this;omega
      have HFF:=Lib.hid (f2_lt (a:=w.heap.size) (fun k hk=>Nat.lt_of_lt_of_le (HX.out.low k hk) hwz))
      obtain ⟨o,ho,hk1,ht0,htl,hres⟩:=torn_yes HTB.out
      rw [HN.out] at ho hres
      obtain ⟨tn,rfl⟩:∃ tn:Nat,torn=(tn:Int):=⟨torn.toNat,by omega⟩
      have hol:=(List.getElem?_eq_some_iff.1 ho).1
      rw [HPL.out] at hol
      have n0:(0:Int)≤(n:Int):=by omega
      have k2:(n:Int)<(pl:Int):=by omega
      obtain ⟨ad,dA,dc,rfl,hby,hd1,hd2,x0,x1,x2,x3,x4,x5⟩:=op_cells (HPT.out.below HNR.out.2) n o ho
      have hdl:=HD.out o (List.mem_of_getElem? ho)
      obtain ⟨dl,hdl2⟩:∃ dl,o.f.data.length=dl:=⟨_,rfl⟩
      rw [hk1] at x0
      rw [hdl2] at hd1 x4 hdl htl hby
      have hfr:=bytes_front dA dl dc tn (by omega)
      have htk:=hby.take tn (by omega)
      have htkl:(o.f.data.take tn).length=tn:=by rw [List.length_take,hdl2];omega
      have t0:(0:Int)≤(tn:Int):=by omega
      unfold maxLen at hd2
      obtain ⟨wb,hwb⟩:∃ wb,wb=wl.alloc (.cells #[.int .i64 1,.string (str o.fr),.string (str o.to),.int .i64 o.f.mode,.slice dA dl dc,.int .i64 o.f.time] 136):=⟨_,rfl⟩
      have hBb:Below wl.heap.size wl wb:=by rw [hwb];exact (Below.refl _ _).alloc (Nat.le_refl _) _
      have hbox:Blk wb wl.heap.size 136 #[.int .i64 1,.string (str o.fr),.string (str o.to),.int .i64 o.f.mode,.slice dA dl dc,.int .i64 o.f.time]:=by rw [hwb];exact Blk.new _ _ _
      have hgl:wl.heap.size<wb.heap.size:=hbox.lt
      have b4:wb.cell? ⟨wl.heap.size,4,none⟩=some (.slice dA dl dc):=hbox.cell 4
      have HTK:=Lib.hid (htk.only (Only.of_below (M:=fun _=>False) hBb) (fun _ _=>id))
      have HBOX:=Lib.hid hbox
      have HBb:=Lib.hid hBb
      have HRES:=Lib.hid hres
      have HTKL:=Lib.hid htkl
      have HO:=Lib.hid ho
      have HK1:=Lib.hid hk1
      have hz1:=HNR.out.2.size
      clear ho hk1 hres hby htk hdl2 hbox hBb htkl
      go_upto_region 9 with (fail)
      rw [← hwb]
      clear hwb x0 x1 x2 x3 x4 x5
      go_wp2_with fail
      clear hfr
      refine (rcopyb_any _ (o.f.data.take tn) _ (By.slv (F:=F) HTK.out) (by rw [HTKL.out];omega)).mono ?_
      rintro e w4 ⟨v4,rfl,ho4,hb4⟩
      obtain ⟨A4,c4,rfl,g1,g2⟩:=ho4.length
      rw [List.length_map,HTKL.out] at ho4 ⊢
      have hk4:=HBOX.out.below hb4 hgl
      have z4:w4.cell? ⟨wl.heap.size,4,none⟩=some (.slice dA dl dc):=hk4.cell 4
      have z4f:w4.frozen? ⟨wl.heap.size,4,none⟩=false:=hk4.frozen 4
      have HO4:=Lib.hid ho4
      have HB4:=Lib.hid hb4
      have HK4:=Lib.hid hk4
      clear ho4 hb4 hk4 b4 g1 g2
      go_upto_region 10 with (fail)
      have hz2:=HBb.out.size
      have hz3:=HB4.out.size
      have hk5:Blk (w4.setCell ⟨wl.heap.size,4,none⟩ (.slice A4 tn c4)) wl.heap.size 136 #[.int .i64 1,.string (str o.fr),.string (str o.to),.int .i64 o.f.mode,.slice A4 tn c4,.int .i64 o.f.time]:=HK4.out.set_ 4 _
      have o45:Only (fun k=>k=wl.heap.size) w4 (w4.setCell ⟨wl.heap.size,4,none⟩ (.slice A4 tn c4)):=Only.set_ (M:=fun k=>k=wl.heap.size) (g:=wl.heap.size) (i:=4) (Only.refl _ w4) (.inl rfl) _
      have hzf:(w4.setCell ⟨wl.heap.size,4,none⟩ (.slice A4 tn c4)).heap.size=w4.heap.size:=by simp [World.setCell]
      generalize w4.setCell ⟨wl.heap.size,4,none⟩ (.slice A4 tn c4)=w5 at *
      have hB5:Below wl.heap.size wl w5:=(HBb.out.trans (HB4.out.mono (by omega))).trans ⟨o45.os,o45.tape,o45.output,o45.size,fun k hk=>o45.block k (by omega) (by omega)⟩
      have q0:w5.cell? ⟨wl.heap.size,0,none⟩=some (.int .i64 1):=hk5.cell 0
      have q1:w5.cell? ⟨wl.heap.size,1,none⟩=some (.string (str o.fr)):=hk5.cell 1
      have q2:w5.cell? ⟨wl.heap.size,2,none⟩=some (.string (str o.to)):=hk5.cell 2
      have q3':w5.cell? ⟨wl.heap.size,3,none⟩=some (.int .i64 o.f.mode):=hk5.cell 3
      have q4:w5.cell? ⟨wl.heap.size,4,none⟩=some (.slice A4 tn c4):=hk5.cell 4
      have q5:w5.cell? ⟨wl.heap.size,5,none⟩=some (.int .i64 o.f.time):=hk5.cell 5
      have HR5:=Lib.hid ((HNR.out.1.below hB5).mono (F':=fun k=>F k∨(w.heap.size≤k∧k<w5.heap.size)) (fun k hk hf=>hf.imp id (fun h=>⟨h.1,hk⟩)))
      have hby5:By (fun k=>F k∨(w.heap.size≤k∧k<w5.heap.size)) w5 (.slice A4 tn c4) (o.f.data.take tn):=by
       have h1:By (fun k=>False∨(wb.heap.size≤k∧k<w4.heap.size)) w4 (.slice A4 tn c4) (o.f.data.take tn):=OwnV.by_ HO4.out
       refine (h1.only o45 (fun k hk e=>?_)).mono (fun k hk hf=>?_)
       ·rcases hk with hk | hk
        ·exact hk
        ·omega
       ·rcases hf with hf | hf
        ·exact hf.elim
        ·exact .inr ⟨by omega,hk⟩
      have HBY5:=Lib.hid hby5
      have HF5:=Lib.hid (f2_lt (a:=w.heap.size) (fun k hk=>Nat.lt_of_lt_of_le (HX.out.low k hk) (show w.heap.size≤w5.heap.size by omega)))
      have HB5:=Lib.hid hB5
      clear hk5 o45 hby5 hB5 z4 z4f
      go_wp2_with fail
      refine (rapply_any _ _ (againM st n) { o with kind:=1,f:={ o.f with data:=o.f.data.take tn } } (.slice A4 tn c4) _ HR5.out HRL.out HBY5.out HF5.out).mono ?_
      rintro e w6 ⟨v6,rfl,hi6,hb6⟩
      have HI6:=Lib.hid hi6
      have HB6:=Lib.hid hb6
      clear hi6 hb6
      go_wp2_with fail
      go_meet
      refine ⟨?_,HNR.out.2.trans ((HB5.out.mono hz1).trans (HB6.out.mono (by omega)))⟩
      rw [HRES.out]
      have he:({ o with f:={ o.f with data:=o.f.data.take (tn:Int).toNat } }:OpM)={ o with kind:=1,f:={ o.f with data:=o.f.data.take tn } }:=by rw [← HK1.out];rfl
      rw [he]
      refine HI6.out.mono (fun k hk hf=>?_)
      rcases hf with (hf | hf) | hf
      ·exact .inl hf
      ·exact .inr ⟨hf.1,hk⟩
      ·exact .inr ⟨by omega,hk⟩
    case rest =>
    obtain ⟨wm,hwm⟩:∃ wm,wm=wc:=⟨_,rfl⟩
    subst hwm
    have hcutb:=hcut.2
    obtain ⟨TA,tc,rfl,_,_⟩:=hcut.1.slice
    have hblkm:=HX.out.blk.below hcutb hblt
    have y1:wm.cell? ⟨b,1,none⟩=some x.now:=hblkm.cell 1
    have y1f:wm.frozen? ⟨b,1,none⟩=false:=hblkm.frozen 1
    have HF1:=Lib.hid (now_fin HX.out HMM.out hcutb hcut.1)
    have hlen:(tornM st keep torn).length≤1000000:=by
     have h1:=again_len st (keepM st keep)
     have h2:=HS.out
     have h3:keepM st keep≤st.pending.length:=by rw [HN.out,HPL.out];exact hnp
     unfold tornM
     split
     ·omega
     ·split
      ·rename_i o _ _
       have:=apply_len (againM st (keepM st keep)) { o with f:={ o.f with data:=o.f.data.take torn.toNat } }
       omega
      ·omega
    have HLEN:=Lib.hid hlen
    clear hcut hcutb hblkm hlen HNR q3 c2 c3 hSA hmm hmm2 hmx hmx2
    go_upto_region 12 with (fail)
    obtain ⟨M1,hat1,hon1,hsub1⟩:=HF1.out
    generalize wm.setCell ⟨b,1,none⟩ (.slice TA (tornM st keep torn).length tc)=w1 at *
    have HAT1:=Lib.hid hat1
    have HON1:=Lib.hid hon1
    have HSUB1:=Lib.hid hsub1
    clear hat1 hon1 hsub1 HF1
    go_wp2_with fail
    refine (rsafe_any _ M1 b { st with now:=tornM st keep torn } _ HAT1.out HLEN.out).mono ?_
    rintro e w2 ⟨rfl,hpost⟩
    obtain ⟨M2,⟨x2,hX2,hM2⟩,hon2,hsub2⟩:=hpost
    have r7:w2.cell? ⟨b,7,none⟩=some (.bool st.down):=hX2.blk.cell 7
    have r7f:w2.frozen? ⟨b,7,none⟩=false:=hX2.blk.frozen 7
    have hfin:=cell_fin (st':={ safeM { st with now:=tornM st keep torn } with down:=true }) 7 (.bool true) hX2 hM2 rfl rfl rfl rfl rfl rfl
    have h12:=FsPost.trans hon2 hsub2 hfin
    have h01:=FsPost.trans HON1.out HSUB1.out h12
    have HFIN:=Lib.hid h01
    clear hX2 hM2 hon2 hsub2 hfin h12 h01
    go_wp2_with fail
    go_end0
    refine ⟨rfl,?_⟩
    rw [HC.out]
    exact HFIN.out
end Go.Proofs.YtlkolcokjmlmjaaGreat.Tx
