/- Texts put together: VFx20, VFx21, VGs3, VGs4, VGs5. -/
import Derived.Test.YtlkolcokjmlmjaaGreatQv17
namespace Go.Proofs.YtlkolcokjmlmjaaGreat.Tx
open Go.RowKit Go.Proofs.YtlkolcokjmlmjaaGreat.Sh
def readE (st:FSM) (p:List UInt8):Int:=if beginE st=0 then (if pathB p=false then 6 else if peekB (beginM st).st.now p=true then 0 else 7) else beginE st
def readF (st:FSM) (p:List UInt8):FileM:=if readE st p=0 then peekF (beginM st).st.now p else ⟨0,[],0⟩
def ReadPost (F M:Nat→Prop) (w:World) (b:Nat) (s:FSM) (n:Int) (f:FileM) (e:Ending) (w':World):Prop :=
 ∃ u v M',e=.returned (.tuple #[u,.int .i64 n])∧u=.agg #[.int .i64 f.mode,v,.int .i64 f.time]∧RefAt (grow F w w' M') w' b s M'∧Only M w w'∧(∀ k,M' k→M k∨w.heap.size≤k)∧By (grow F w w' M') w' v f.data
theorem set3 {W : World} {r : Nat} {T : TypeId} {x0 x1 x2 : Value} (h : Blk W r T #[x0, x1, x2]) (a b c : Value) :
  Blk (((W.setCell ⟨r,0,none⟩ a).setCell ⟨r,1,none⟩ b).setCell ⟨r,2,none⟩ c) r T #[a,b,c]∧Only (fun k=>k=r) W (((W.setCell ⟨r,0,none⟩ a).setCell ⟨r,1,none⟩ b).setCell ⟨r,2,none⟩ c) :=
 ⟨((h.set_ 0 a).set_ 1 b).set_ 2 c,Only.set_ (M:=fun k=>k=r) (g:=r) (i:=2) (Only.set_ (M:=fun k=>k=r) (g:=r) (i:=1) (Only.set_ (M:=fun k=>k=r) (g:=r) (i:=0) (Only.refl _ W) (.inl rfl) a) (.inl rfl) b) (.inl rfl) c⟩
theorem RefAt.mlt {F M:Nat→Prop} {w:World} {b:Nat} {st:FSM} (h:RefAt F w b st M) (k:Nat) (hk:M k):k<w.heap.size:=by
 obtain ⟨x,hX,hM⟩:=h
 exact hX.lt k ((hM k).1 hk)
theorem RefAt.flt {F M:Nat→Prop} {w:World} {b:Nat} {st:FSM} (h:RefAt F w b st M) (k:Nat) (hk:F k):k<w.heap.size:=by
 obtain ⟨x,hX,_⟩:=h
 exact hX.low k hk
theorem read_fin {F M M1 : Nat → Prop} {w wa w1 w' : World} {b : Nat} {s : FSM} (hwa : Below w.heap.size w wa) (hz : w.heap.size < wa.heap.size) (hat : RefAt (grow F wa w1 M1) w1 b s M1) (hon : Only M wa w1) (hsub : ∀ k, M1 k → M k ∨ wa.heap.size ≤ k)
  (hr:Only (fun k=>k=w.heap.size) w1 w') (hF:∀ k,F k→k<w.heap.size) (hM:∀ k,M k→k<w.heap.size) :
  RefAt (grow F w w' M1) w' b s M1∧Only M w w'∧∀ k,M1 k→M k∨w.heap.size≤k:=by
 obtain ⟨x,hX,hX2⟩:=hat
 have hz1:=hon.size
 have hz2:=hr.size
 have hne:∀ k,M1 k→¬ (k=w.heap.size):=fun k hk e=>by
  rcases hsub k hk with h | h
  ·have:=hM k h;omega
  ·omega
 have h1:RefX (grow F wa w1 M1) w' b s x:=hX.only hr (fun k hk e=>by
  rcases hk with hk | ⟨g1,_,_⟩
  ·have:=hF k hk;omega
  ·omega) (fun k hk=>hne k ((hX2 k).2 hk))
 refine ⟨⟨x,h1.mono (F':=grow F w w' M1) (fun k hk=>?_) (fun k hk hm=>?_) (fun k hk=>?_),hX2⟩,((Only.of_below hwa).trans hon (fun k hk=>.inl hk)).trans hr (fun k hk=>.inr (by rw [hk];exact Nat.le_refl _)),fun k hk=>(hsub k hk).imp id (fun h=>by omega)⟩
 ·rcases hk with hk | ⟨g1,g2,g3⟩
  ·exact .inl hk
  ·exact .inr ⟨by omega,by omega,g3⟩
 ·rcases hk with hk | ⟨_,_,g3⟩
  ·exact hX.apart k (.inl hk) hm
  ·exact g3 ((hX2 k).2 hm)
 ·rcases hk with hk | ⟨_,g2,_⟩
  ·have:=hF k hk;omega
  ·exact g2
set_option maxRecDepth 100000 in
set_option maxHeartbeats 3200000 in
theorem rread_any (F M : Nat → Prop) (b : Nat) (st : FSM) (N : Nat) (p : List UInt8) (w : World) (h : RefAt F w b st M) (hr : Ready st N) (hp : p.length ≤ 1000000) :
  Calls Tryz.prog 28 #[.pointer (some ⟨b,0,none⟩),.string (str p)] w (ReadPost F M w b (beginM st).st (readE st p) (readF st p)):=by
 have HR:=Lib.hid hr
 have HS:=Lib.hid hr.small
 have HLF:=Lib.hid h.flt
 have HLM:=Lib.hid h.mlt
 obtain ⟨wa,hwa⟩:∃ wa,wa=w.alloc (.cells #[.int .i64 0,.slice none 0 0,.int .i64 0] 78):=⟨_,rfl⟩
 have hBa:Below w.heap.size w wa:=by rw [hwa];exact (Below.refl _ _).alloc (Nat.le_refl _) _
 have hba:Blk wa w.heap.size 78 #[.int .i64 0,.slice none 0 0,.int .i64 0]:=by rw [hwa];exact Blk.new _ _ _
 have HZA:Hid (w.heap.size<wa.heap.size):=hba.lt
 have HBA:=Lib.hid hBa
 have HBLK:=Lib.hid hba
 have H:=Lib.hid (h.below hBa)
 clear h hr hBa hba
 obtain ⟨be,hbe⟩:∃ be,beginE st=be:=⟨_,rfl⟩
 have HBE:=Lib.hid hbe
 obtain ⟨tp,htp⟩:∃ t,pathB p=t:=⟨_,rfl⟩
 have HTP:=Lib.hid htp
 clear hbe htp
 go_enter Tryz.func28,Tryz.ntmps28
 go_upto_region 1 with (fail)
 rw [← hwa]
 clear hwa
 go_wp2_with fail
 refine (rbegin_any F M b st N _ H.out HR.out.fits (by have:=HR.out.big;omega) HR.out.calls HR.out.paths).mono ?_
 rintro e w1 ⟨rfl,hpost⟩
 rw [HBE.out]
 obtain ⟨s,hs⟩:∃ s,(beginM st).st=s:=⟨_,rfl⟩
 have HSS:=Lib.hid hs
 rw [hs] at hpost
 obtain ⟨M1,hat,hon,hsub⟩:=hpost
 have HSM:Hid (Small s):=by rw [← hs];exact HS.out
 have HAT:=Lib.hid hat
 have HON:=Lib.hid hon
 have HSUB:=Lib.hid hsub
 have hb1:Blk w1 w.heap.size 78 #[.int .i64 0,.slice none 0 0,.int .i64 0]:=hon.blk HBLK.out (fun hm=>by have:=HLM.out _ hm;omega)
 have HB1:=Lib.hid hb1
 have hwl:w.heap.size<w1.heap.size:=hb1.lt
 clear hat hon hsub hs hb1
 obtain ⟨fu,hfu⟩:∃ fu,(beginM st).full=fu:=⟨_,rfl⟩
 rw [hfu]
 clear hfu
 by_cases hb0:be=0
 ·subst hb0
  go_wp2_with fail
  refine (rpath_any p _ hp).mono ?_
  rintro e w2 ⟨rfl,hb2⟩
  rw [HTP.out]
  have HB2:=Lib.hid hb2
  have HK2:=Lib.hid (HB1.out.below hb2 hwl)
  have hz2:=hb2.size
  clear hb2
  cases tp with
  | false =>
   have HE:Hid (readE st p=6∧readF st p=⟨0,[],0⟩):=by
    have h1:readE st p=6:=by unfold readE;rw [if_pos HBE.out,if_pos HTP.out]
    exact ⟨h1,by unfold readF;rw [h1,if_neg (by decide)]⟩
   have a0:w2.cell? ⟨w.heap.size,0,none⟩=some (.int .i64 0):=HK2.out.cell 0
   have a1:w2.cell? ⟨w.heap.size,1,none⟩=some (.slice none 0 0):=HK2.out.cell 1
   have a2:w2.cell? ⟨w.heap.size,2,none⟩=some (.int .i64 0):=HK2.out.cell 2
   have f0:w2.frozen? ⟨w.heap.size,0,none⟩=false:=HK2.out.frozen 0
   have f1:w2.frozen? ⟨w.heap.size,1,none⟩=false:=HK2.out.frozen 1
   have f2:w2.frozen? ⟨w.heap.size,2,none⟩=false:=HK2.out.frozen 2
   have hs3:=set3 HK2.out (.int .i64 0) (.slice none 0 0) (.int .i64 0)
   have HBC:=Lib.hid hs3.1
   have HON3:=Lib.hid ((Only.of_below HB2.out).trans hs3.2 (fun _ h=>.inl h))
   clear hs3
   go_wp2_with fail
   generalize (((w2.setCell ⟨w.heap.size,0,none⟩ (.int .i64 0)).setCell ⟨w.heap.size,1,none⟩ (.slice none 0 0)).setCell ⟨w.heap.size,2,none⟩ (.int .i64 0))=wc at *
   have q0:wc.cell? ⟨w.heap.size,0,none⟩=some (.int .i64 0):=HBC.out.cell 0
   have q1:wc.cell? ⟨w.heap.size,1,none⟩=some (.slice none 0 0):=HBC.out.cell 1
   have q2:wc.cell? ⟨w.heap.size,2,none⟩=some (.int .i64 0):=HBC.out.cell 2
   refine bodyPost_ret (v:=.tuple #[.agg #[(.int .i64 0),(.slice none 0 0),(.int .i64 0)],.int .i64 6]) (by simp [results,Tryz.results28,go_sem,q0,q1,q2]) rfl ?_
   have hfin:=read_fin HBA.out HZA.out HAT.out HON.out HSUB.out HON3.out HLF.out HLM.out
   refine ⟨_,_,M1,by rw [HE.out.1],by rw [HE.out.2],by rw [HSS.out];exact hfin.1,hfin.2.1,hfin.2.2,?_⟩
   rw [HE.out.2]
   exact By.nil_ _ _
  | true =>
   go_wp2_with fail
   refine (rpeek_any p (HAT.out.below HB2.out) HSM.out.ndat).mono ?_
   rintro e w3 ⟨u3,rfl,hfv,hb3⟩
   obtain ⟨v3,rfl,ho3⟩:=hfv
   have hb13:Below w1.heap.size w1 w3:=HB2.out.trans (hb3.mono hz2)
   have HO3:=Lib.hid ho3
   obtain ⟨A3,c3,rfl,_,_⟩:=ho3.length
   rw [List.length_map] at HO3 ⊢
   obtain ⟨pf,hpf⟩:∃ pf,peekF s.now p=pf:=⟨_,rfl⟩
   obtain ⟨pb,hpb⟩:∃ pb,peekB s.now p=pb:=⟨_,rfl⟩
   have HPF:=Lib.hid hpf
   have HPB:=Lib.hid hpb
   rw [hpf] at HO3 ⊢
   rw [hpb]
   clear hpf hpb ho3
   obtain ⟨w4,hw4⟩:∃ w4,w4=w3.alloc (.cells #[.int .i64 pf.mode,.slice A3 pf.data.length c3,.int .i64 pf.time] 78):=⟨_,rfl⟩
   have hb34:Below w3.heap.size w3 w4:=by rw [hw4];exact (Below.refl _ _).alloc (Nat.le_refl _) _
   have hbx:Blk w4 w3.heap.size 78 #[.int .i64 pf.mode,.slice A3 pf.data.length c3,.int .i64 pf.time]:=by rw [hw4];exact Blk.new _ _ _
   have hz3:=hb13.size
   have HO4:=Lib.hid (HO3.out.below hb34)
   have HB14:=Lib.hid (hb13.trans (hb34.mono hz3))
   have HK4:=Lib.hid (HB1.out.below HB14.out hwl)
   have HX4:=Lib.hid hbx
   clear hb13 hb34 hbx hb3
   go_upto_region 7 with (fail)
   rw [← hw4]
   clear hw4
   have x0:w4.cell? ⟨w3.heap.size,0,none⟩=some (.int .i64 pf.mode):=HX4.out.cell 0
   have x1:w4.cell? ⟨w3.heap.size,1,none⟩=some (.slice A3 pf.data.length c3):=HX4.out.cell 1
   have x2:w4.cell? ⟨w3.heap.size,2,none⟩=some (.int .i64 pf.time):=HX4.out.cell 2
   have a0:w4.cell? ⟨w.heap.size,0,none⟩=some (.int .i64 0):=HK4.out.cell 0
   have a1:w4.cell? ⟨w.heap.size,1,none⟩=some (.slice none 0 0):=HK4.out.cell 1
   have a2:w4.cell? ⟨w.heap.size,2,none⟩=some (.int .i64 0):=HK4.out.cell 2
   have f0:w4.frozen? ⟨w.heap.size,0,none⟩=false:=HK4.out.frozen 0
   have f1:w4.frozen? ⟨w.heap.size,1,none⟩=false:=HK4.out.frozen 1
   have f2:w4.frozen? ⟨w.heap.size,2,none⟩=false:=HK4.out.frozen 2
   cases pb with
   | false =>
    have HE:Hid (readE st p=7∧readF st p=⟨0,[],0⟩):=by
     have h1:readE st p=7:=by unfold readE;rw [if_pos HBE.out,if_neg (by rw [HTP.out];decide),HSS.out,if_neg (by rw [HPB.out];decide)]
     exact ⟨h1,by unfold readF;rw [h1,if_neg (by decide)]⟩
    have hs3:=set3 HK4.out (.int .i64 0) (.slice none 0 0) (.int .i64 0)
    have HBC:=Lib.hid hs3.1
    have HON3:=Lib.hid ((Only.of_below HB14.out).trans hs3.2 (fun _ h=>.inl h))
    clear hs3
    go_wp2_with fail
    generalize (((w4.setCell ⟨w.heap.size,0,none⟩ (.int .i64 0)).setCell ⟨w.heap.size,1,none⟩ (.slice none 0 0)).setCell ⟨w.heap.size,2,none⟩ (.int .i64 0))=wc at *
    have q0:wc.cell? ⟨w.heap.size,0,none⟩=some (.int .i64 0):=HBC.out.cell 0
    have q1:wc.cell? ⟨w.heap.size,1,none⟩=some (.slice none 0 0):=HBC.out.cell 1
    have q2:wc.cell? ⟨w.heap.size,2,none⟩=some (.int .i64 0):=HBC.out.cell 2
    refine bodyPost_ret (v:=.tuple #[.agg #[(.int .i64 0),(.slice none 0 0),(.int .i64 0)],.int .i64 7]) (by simp [results,Tryz.results28,go_sem,q0,q1,q2]) rfl ?_
    have hfin:=read_fin HBA.out HZA.out HAT.out HON.out HSUB.out HON3.out HLF.out HLM.out
    refine ⟨_,_,M1,by rw [HE.out.1],by rw [HE.out.2],by rw [HSS.out];exact hfin.1,hfin.2.1,hfin.2.2,?_⟩
    rw [HE.out.2]
    exact By.nil_ _ _
   | true =>
    have HE:Hid (readE st p=0∧readF st p=pf):=by
     have h1:readE st p=0:=by unfold readE;rw [if_pos HBE.out,if_neg (by rw [HTP.out];decide),HSS.out,if_pos HPB.out]
     exact ⟨h1,by unfold readF;rw [h1,if_pos rfl,HSS.out,HPF.out]⟩
    have HBY:=Lib.hid (OwnV.by_ (F:=fun _=>False) HO4.out)
    have hs3:=set3 HK4.out (.int .i64 pf.mode) (.slice A3 pf.data.length c3) (.int .i64 pf.time)
    have HBC:=Lib.hid hs3.1
    have HON3:=Lib.hid ((Only.of_below HB14.out).trans hs3.2 (fun _ h=>.inl h))
    have HBYC:=Lib.hid (HBY.out.only hs3.2 (fun k hk e=>by
     rcases hk with hk | hk
     ·exact hk
     ·have:=hk.1;omega))
    clear hs3
    go_wp2_with fail
    generalize (((w4.setCell ⟨w.heap.size,0,none⟩ (.int .i64 pf.mode)).setCell ⟨w.heap.size,1,none⟩ (.slice A3 pf.data.length c3)).setCell ⟨w.heap.size,2,none⟩ (.int .i64 pf.time))=wc at *
    have q0:wc.cell? ⟨w.heap.size,0,none⟩=some (.int .i64 pf.mode):=HBC.out.cell 0
    have q1:wc.cell? ⟨w.heap.size,1,none⟩=some (.slice A3 pf.data.length c3):=HBC.out.cell 1
    have q2:wc.cell? ⟨w.heap.size,2,none⟩=some (.int .i64 pf.time):=HBC.out.cell 2
    refine bodyPost_ret (v:=.tuple #[.agg #[(.int .i64 pf.mode),(.slice A3 pf.data.length c3),(.int .i64 pf.time)],.int .i64 0]) (by simp [results,Tryz.results28,go_sem,q0,q1,q2]) rfl ?_
    have hfin:=read_fin HBA.out HZA.out HAT.out HON.out HSUB.out HON3.out HLF.out HLM.out
    refine ⟨_,_,M1,by rw [HE.out.1],by rw [HE.out.2],by rw [HSS.out];exact hfin.1,hfin.2.1,hfin.2.2,?_⟩
    rw [HE.out.2]
    refine HBYC.out.mono (fun k hk hf=>?_)
    rcases hf with hf | hf
    ·exact hf.elim
    ·exact .inr ⟨by have:=hf.1;omega,hk,fun hm=>by have:=HAT.out.mlt k hm;have:=hf.1;omega⟩
 ·have e1:(be==0)=false:=by rw [beq_eq_false_iff_ne];exact hb0
  have HE:Hid (readE st p=be∧readF st p=⟨0,[],0⟩):=by
   have h1:readE st p=be:=by unfold readE;rw [HBE.out,if_neg hb0]
   exact ⟨h1,by unfold readF;rw [h1,if_neg hb0]⟩
  clear hb0
  have a0:w1.cell? ⟨w.heap.size,0,none⟩=some (.int .i64 0):=HB1.out.cell 0
  have a1:w1.cell? ⟨w.heap.size,1,none⟩=some (.slice none 0 0):=HB1.out.cell 1
  have a2:w1.cell? ⟨w.heap.size,2,none⟩=some (.int .i64 0):=HB1.out.cell 2
  have f0:w1.frozen? ⟨w.heap.size,0,none⟩=false:=HB1.out.frozen 0
  have f1:w1.frozen? ⟨w.heap.size,1,none⟩=false:=HB1.out.frozen 1
  have f2:w1.frozen? ⟨w.heap.size,2,none⟩=false:=HB1.out.frozen 2
  have hs3:=set3 HB1.out (.int .i64 0) (.slice none 0 0) (.int .i64 0)
  have HBC:=Lib.hid hs3.1
  have HON3:=Lib.hid ((Only.refl _ w1).trans hs3.2 (fun _ h=>.inl h))
  clear hs3
  go_wp2_with fail
  generalize (((w1.setCell ⟨w.heap.size,0,none⟩ (.int .i64 0)).setCell ⟨w.heap.size,1,none⟩ (.slice none 0 0)).setCell ⟨w.heap.size,2,none⟩ (.int .i64 0))=wc at *
  have q0:wc.cell? ⟨w.heap.size,0,none⟩=some (.int .i64 0):=HBC.out.cell 0
  have q1:wc.cell? ⟨w.heap.size,1,none⟩=some (.slice none 0 0):=HBC.out.cell 1
  have q2:wc.cell? ⟨w.heap.size,2,none⟩=some (.int .i64 0):=HBC.out.cell 2
  refine bodyPost_ret (v:=.tuple #[.agg #[(.int .i64 0),(.slice none 0 0),(.int .i64 0)],.int .i64 be]) (by simp [results,Tryz.results28,go_sem,q0,q1,q2]) rfl ?_
  have hfin:=read_fin HBA.out HZA.out HAT.out HON.out HSUB.out HON3.out HLF.out HLM.out
  refine ⟨_,_,M1,by rw [HE.out.1],by rw [HE.out.2],by rw [HSS.out];exact hfin.1,hfin.2.1,hfin.2.2,?_⟩
  rw [HE.out.2]
  exact By.nil_ _ _
end Go.Proofs.YtlkolcokjmlmjaaGreat.Tx
namespace Go.Proofs.YtlkolcokjmlmjaaGreat.Tx
open Go.RowKit Go.Proofs.YtlkolcokjmlmjaaGreat.Sh
def UserPost (F:Nat→Prop) (w:World) (l:List EvM) (e:Ending) (w':World):Prop:=∃ v,e=.returned v∧OwnL evK 110 F w' w.heap.size v l∧Below w.heap.size w w'
set_option maxRecDepth 100000 in
set_option maxHeartbeats 1600000 in
theorem ruser_any {F M:Nat→Prop} {b:Nat} {st:FSM} {w:World} (h:RefAt F w b st M) (hn:st.user.length≤1000000):Calls Tryz.prog 82 #[.pointer (some ⟨b,0,none⟩)] w (UserPost F w st.user):=by
 obtain ⟨x,hX,hM⟩:=h
 have hwa:Blk (w.alloc (.cells #[] 110)) b 73 (fsC st x):=hX.blk.alloc _
 have c8:(w.alloc (.cells #[] 110)).cell? ⟨b,8,none⟩=some x.user:=hwa.cell 8
 have HRE:=Lib.hid (OwnL.empty (K:=evK) (F:=F) (B:=w.heap.size) (Blk.new w 110 #[]) (Nat.le_refl _) (fun hk=>by have:=hX.low _ hk;omega))
 have HU:=Lib.hid (hX.user.tmp.alloc (.cells #[] 110))
 have hz:w.heap.size≤(w.alloc (.cells #[] 110)).heap.size:=((Below.refl w.heap.size w).alloc (Nat.le_refl _) _).size
 have HZ:=Lib.hid hz
 have HF:Hid (∀ k,F k→k<(w.alloc (.cells #[] 110)).heap.size):=fun k hk=>Nat.lt_of_lt_of_le (hX.low k hk) hz
 have hsm:List.length (α:=evK.α) []+List.length (α:=evK.α) st.user≤2000000:=by show 0+st.user.length≤2000000;omega
 have HSM:=Lib.hid hsm
 clear hX hM hwa hz hsm hn
 go_enter Tryz.func82,Tryz.ntmps82
 go_wp2_with (at_builtin;refine list_appendL typed_ev rfl (.tmp 3) (.tmp 7) rfl HRE.out HU.out rfl rfl HSM.out HZ.out HF.out ?_;intro v3 w3 ho3 hg3 hb3;have HO3:=Lib.hid ho3;have HG3:=Lib.hid hg3;clear ho3 hg3 hb3)
 go_ret
 refine ⟨v3,rfl,HO3.out,?_⟩
 exact ((Below.refl w.heap.size w).alloc (Nat.le_refl _) _).trans (below_of_only HG3.out (Nat.le_refl _) HZ.out)
end Go.Proofs.YtlkolcokjmlmjaaGreat.Tx
namespace Go.Proofs.YtlkolcokjmlmjaaGreat.Tx
open Go.RowKit Go.Maps Go.Proofs.YtlkolcokjmlmjaaGreat.Sh
set_option maxRecDepth 100000 in
set_option maxHeartbeats 400000 in
theorem bclone_any (v:Value) (bs:List UInt8) (w:World) (h:SlV w v (bs.map bv)) (hn:bs.length≤2000000):Calls Tryz.prog 106 #[v] w fun e w'=>∃ v',e=.returned v'∧OwnV 5 w' w.heap.size v' (bs.map bv)∧Below w.heap.size w w':=by
 obtain ⟨A,c,rfl,hlc,hcm,hR⟩:=(h.below ((Below.refl w.heap.size w).alloc (Nat.le_refl _) (.cells #[] 5))).len
 rw [List.length_map] at hlc hR ⊢
 obtain ⟨l,hl⟩:∃ l,bs.length=l:=⟨_,rfl⟩
 have hnil:=fun (w:World)=>Lib.run_eql_slice_nil (P:=Tryz.prog) w 32 5 A l c 0 0 Tryz.underlying32
 rcases A with _ | ad
 ·have hb0 : bs = [] := by
   cases bs with
   | nil=>rfl
   | cons x r =>
    obtain ⟨ad,e,_⟩:=hR.2 (by simp)
    cases e
  subst hb0
  simp only [List.length_nil] at hl hnil
  subst hl
  simp only [Option.isNone] at hnil
  clear hR hlc hcm h
  go_enter Tryz.func106,Tryz.ntmps106
  go_wp2_with fail
  go_ret
  exact ⟨_,rfl,OwnV.nil_ _ _,Below.refl _ _⟩
 ·have hown:OwnV 5 (w.alloc (.cells #[] 5)) w.heap.size (.slice (some ⟨w.heap.size,0,none⟩) 0 0) (([]:List UInt8).map bv):=World.ownsRow_made w #[] 0 (Nat.le_refl _) (by unfold maxLen;omega) rfl
  rw [hl] at hR hn ⊢
  simp only [Option.isNone] at hnil
  have hsm:([]:List UInt8).length+l≤140737488355328:=by simp;omega
  have hz:w.heap.size≤(w.alloc (.cells #[] 5)).heap.size:=by simp
  have HR:=Lib.hid hR
  have HOWN:=Lib.hid hown
  clear hR hown hl h hlc hcm
  go_enter Tryz.func106,Tryz.ntmps106
  go_wp2_with (at_builtin;refine append_bytes rfl (.tmp 5) (.tmp 6) rfl _ w.heap.size (.slice (some ⟨w.heap.size,0,none⟩) 0 0) [] rfl HOWN.out _ (some ad) l c bs rfl HR.out hsm hz ?_;intro v3 w3 ho3 hb3;have HO:=Lib.hid ho3;have HB:=Lib.hid hb3;clear ho3 hb3)
  go_ret
  refine ⟨v3,rfl,?_,((Below.refl _ _).alloc (Nat.le_refl _) _).trans HB.out⟩
  simpa using HO.out
section
variable {F M:Nat→Prop} {b:Nat} {c:CSt} {w:World}
set_option maxRecDepth 100000 in
theorem up_any (h:FcAt F w b c M):Calls Tryz.prog 75 #[.pointer (some ⟨b,0,none⟩)] w fun e w'=>e=.returned (.bool (!c.down))∧w=w':=by
 obtain ⟨x,hX,_⟩:=h
 have c7:w.cell? ⟨b,3,none⟩=some (.bool c.down):=hX.blk.cell 3
 clear hX
 go_enter Tryz.func75,Tryz.ntmps75
 go_wp2
 go_ret
 exact ⟨rfl,rfl⟩
set_option maxRecDepth 100000 in
theorem load64 (a : Addr) (x : Int) (w : World) (h : w.cell? a = some (.int .i64 x)) :
  Calls Tryz.prog 116 #[.pointer (some a)] w fun e w'=>e=.returned (.int .i64 x)∧w=w':=by
 have hl:=run_call_load (P:=Tryz.prog) Tryz.func145 (by kernel_rfl) (by kernel_rfl) (by kernel_rfl) .i64 (by kernel_rfl) h
 go_enter Tryz.func116,Tryz.ntmps116
 go_wp2
 go_ret
 exact ⟨rfl,rfl⟩
set_option maxRecDepth 100000 in
theorem add64 (a : Addr) (x y : Int) (w : World) (h : w.cell? a = some (.int .i64 x)) (hz : w.frozen? a = false) :
  Calls Tryz.prog 126 #[.pointer (some a),.int .i64 y] w fun e w'=>e=.returned (.int .i64 (IntKind.i64.wrap (x+y)))∧w'=w.setCell a (.int .i64 (IntKind.i64.wrap (x+y))):=by
 have hl:=run_call_add (P:=Tryz.prog) Tryz.func151 (by kernel_rfl) (by kernel_rfl) (by kernel_rfl) .i64 (by kernel_rfl) (y:=y) (s:=IntKind.i64.wrap (x+y)) h hz (by simp [Op.intArith])
 generalize IntKind.i64.wrap (x+y)=s at *
 go_enter Tryz.func126,Tryz.ntmps126
 go_wp2
 go_ret
 exact ⟨rfl,rfl⟩
set_option maxRecDepth 100000 in
theorem calls_any (h:FcAt F w b c M):Calls Tryz.prog 67 #[.pointer (some ⟨b,0,none⟩)] w fun e w'=>e=.returned (.int .i64 c.calls)∧w=w':=by
 obtain ⟨x,hX,_⟩:=h
 have hc:w.cell? ⟨b,1,none⟩=some (.int .i64 c.calls):=hX.blk.cell 1
 clear hX
 go_enter Tryz.func67,Tryz.ntmps67
 go_wp2_with (go_at_call 116;refine (load64 _ c.calls _ hc).mono ?_;rintro e w' ⟨rfl,rfl⟩)
 go_ret
 exact ⟨rfl,rfl⟩
set_option maxRecDepth 100000 in
theorem now_any (h:FcAt F w b c M):Calls Tryz.prog 69 #[.pointer (some ⟨b,0,none⟩)] w fun e w'=>e=.returned (.int .i64 c.time)∧w=w':=by
 obtain ⟨x,hX,_⟩:=h
 have hc:w.cell? ⟨b,2,none⟩=some (.int .i64 c.time):=hX.blk.cell 2
 clear hX
 go_enter Tryz.func69,Tryz.ntmps69
 go_wp2
 go_ret
 exact ⟨rfl,rfl⟩
set_option maxRecDepth 100000 in
theorem fused_any (h:FcAt F w b c M):Calls Tryz.prog 71 #[.pointer (some ⟨b,0,none⟩)] w fun e w'=>e=.returned (.int .i64 (usedM c.here))∧w=w':=by
 obtain ⟨x,hX,_⟩:=h
 have hc:w.cell? ⟨b,6,none⟩=some (.pointer (some ⟨x.here,0,none⟩)):=hX.blk.cell 6
 have hd:w.cell? ⟨x.here,2,none⟩=some (.int .i64 (usedM c.here)):=hX.here.blk.cell 2
 clear hX
 go_enter Tryz.func71,Tryz.ntmps71
 go_wp2
 go_ret
 exact ⟨rfl,rfl⟩
set_option maxRecDepth 100000 in
theorem pending_any (h:FcAt F w b c M):Calls Tryz.prog 73 #[.pointer (some ⟨b,0,none⟩)] w fun e w'=>e=.returned (.int .i64 c.pending.length)∧w=w':=by
 obtain ⟨x,hX,_⟩:=h
 obtain ⟨PA,pc,hPA,_,_,_⟩:=hX.chs
 have c3:w.cell? ⟨b,8,none⟩=some (.slice PA c.pending.length pc):=by rw [← hPA];exact hX.blk.cell 8
 clear hX hPA
 obtain ⟨n,hn⟩:∃ n,c.pending.length=n:=⟨_,rfl⟩
 rw [hn] at c3 ⊢
 clear hn
 go_enter Tryz.func73,Tryz.ntmps73
 go_wp2
 go_ret
 exact ⟨rfl,rfl⟩
set_option maxRecDepth 100000 in
theorem reboot_any (h:FcAt F w b c M):Calls Tryz.prog 61 #[.pointer (some ⟨b,0,none⟩)] w fun e w'=>e=.returned (.tuple #[])∧FcPost F M w b { c with down:=false } w':=by
 obtain ⟨x,hX,hM⟩:=h
 have c7:w.cell? ⟨b,3,none⟩=some (.bool c.down):=hX.blk.cell 3
 have c7f:w.frozen? ⟨b,3,none⟩=false:=hX.blk.frozen 3
 have HF:=Lib.hid (fc_cell (c':={ c with down:=false }) 3 (.bool false) hX hM rfl rfl rfl rfl rfl rfl)
 clear hX hM
 go_enter Tryz.func61,Tryz.ntmps61
 go_wp2
 go_end0
 exact ⟨rfl,HF.out⟩
set_option maxRecDepth 100000 in
theorem paths_any (h:FcAt F w b c M) (hs:CSmall c):Calls Tryz.prog 77 #[.pointer (some ⟨b,0,none⟩)] w (TextsPost w ((pathsM c.here).map str)):=by
 obtain ⟨x,hX,_⟩:=h
 have hc:w.cell? ⟨b,6,none⟩=some (.pointer (some ⟨x.here,0,none⟩)):=hX.blk.cell 6
 have hl:listC c.here []=pathsM c.here:=by
  unfold listC
  exact List.filter_eq_self.2 fun q _=>rfl
 have HP:=Lib.hid (tpaths_any F x.here x.hf x.hu c.here [] w hX.here (by have:=hs.here;omega) (by simp))
 rw [hl] at HP
 clear hX hl
 go_enter Tryz.func77,Tryz.ntmps77
 go_wp2_with fail
 refine HP.out.mono ?_
 rintro e w1 ⟨v,rfl,ho,hb⟩
 have HO:=Lib.hid ho
 have HB:=Lib.hid hb
 clear ho hb
 go_wp2_with fail
 go_ret
 exact ⟨v,rfl,HO.out,HB.out⟩
end
def newC (room:Int):CSt:=⟨room,0,0,false,[],[],[],[],[]⟩
set_option maxRecDepth 100000 in
set_option maxHeartbeats 1600000 in
theorem new_any (F:Nat→Prop) (room:Int) (w:World) (hF:∀ k,F k→k<w.heap.size):Calls Tryz.prog 6 #[.int .i64 room] w fun e w'=>Below w.heap.size w w'∧(newB room=false∧e=.returned (.tuple #[.pointer none,.int .i64 1])∨newB room=true∧∃ b M,w.heap.size≤b∧(∀ k,M k→w.heap.size≤k)∧e=.returned (.tuple #[.pointer (some ⟨b,0,none⟩),.int .i64 0])∧FcAt F w' b (newC room) M):=by
 have HF:=Lib.hid hF
 go_enter Tryz.func6,Tryz.ntmps6
 by_cases h1:room<0
 ·have HNB:Hid (newB room=false):=decide_eq_false (by omega)
  go_wp2
  go_ret2
  exact ⟨Below.refl _ _,.inl ⟨HNB.out,rfl⟩⟩
 ·by_cases h2:1073741824<room
  ·have HNB:Hid (newB room=false):=decide_eq_false (by omega)
   go_wp2
   go_ret2
   exact ⟨Below.refl _ _,.inl ⟨HNB.out,rfl⟩⟩
  ·have HNB:Hid (newB room=true):=decide_eq_true (by omega)
   go_wp2_with fail
   refine (tnew_any F _).mono ?_
   rintro e w1 ⟨t1,rfl,hb1,f1,u1,hT1,hl1⟩
   go_wp2_with fail
   refine (tnew_any F _).mono ?_
   rintro e w2 ⟨t2,rfl,hb2,f2,u2,hT2,hl2⟩
   have HT1:=Lib.hid (hT1.below hb2)
   have HT2:=Lib.hid hT2
   have HL1:=Lib.hid hl1
   have HL2:=Lib.hid hl2
   have HB1:=Lib.hid hb1
   have HB2:=Lib.hid (hb1.trans (hb2.mono hb1.size))
   have HLT:=Lib.hid hT1.lt
   clear hb1 hT1 hl1 hb2 hT2 hl2
   go_wp2_with fail
   go_ret2
   have hz1:=HB1.out.size
   have hz2:=HB2.out.size
   refine ⟨HB2.out.alloc hz2 _,.inr ⟨HNB.out,w2.heap.size,_,hz2,?_,rfl,⟨.slice none 0 0,.slice none 0 0,t1,t2,.slice none 0 0,f1,u1,f2,u2⟩,⟨Blk.new _ _ _,?_,?_,OwnL.nil_ chK _ F _ 0,InL.nil_ evK F _,OwnL.nil_ evK _ F _ 0,?_,?_,?_⟩,fun k=>Iff.rfl⟩⟩
   ·rintro k (rfl | h | h | h | h)
    ·exact hz2
    ·exact HL1.out k h
    ·have:=HL2.out k h;omega
    ·cases h
    ·cases h
   ·exact HT1.out.below ((Below.refl _ _).alloc (Nat.le_refl _) _)
   ·exact HT2.out.below ((Below.refl _ _).alloc (Nat.le_refl _) _)
   ·intro k hk hm
    have:=HF.out k hk
    rcases hm with rfl | h | h | h | h
    ·omega
    ·have:=HL1.out k h;omega
    ·have:=HL2.out k h;omega
    ·cases h
    ·cases h
   ·intro k hk
    have:=HF.out k hk
    simp
    omega
   ·intro k h h'
    have h1:=HLT.out k h
    have h2:=HL2.out k h'
    omega
end Go.Proofs.YtlkolcokjmlmjaaGreat.Tx
namespace Go.Proofs.YtlkolcokjmlmjaaGreat.Tx
open Go.RowKit Go.Maps Go.Proofs.YtlkolcokjmlmjaaGreat.Sh
theorem peek_row {R:List RowM} (ho:Ord R) {r:RowM} (hr:r∈R):peekF R r.path=r.f∧peekB R r.path=true:=by
 have hb:peekB R r.path=true:=by unfold peekB;rw [← stands_find];exact stands_iff.2 ⟨r,hr,rfl⟩
 refine ⟨?_,hb⟩
 unfold peekF
 cases hf:findM R r.path with
 | none=>unfold peekB at hb;rw [hf] at hb;cases hb
 | some i =>
  obtain ⟨r',hr',hp⟩:=find_at hf
  show rowF R i=r.f
  unfold rowF
  rw [hr']
  show r'.f=r.f
  rw [ord_one ho (List.mem_of_getElem? hr') hr hp]
theorem peek_none {R:List RowM} {p:List UInt8} (h:standsM R p=false):peekF R p=⟨0,[],0⟩∧peekB R p=false:=by
 have hb:(findM R p).isSome=false:=by rw [← stands_find];exact h
 refine ⟨?_,hb⟩
 unfold peekF
 cases hf:findM R p with
 | none=>rfl
 | some i=>rw [hf] at hb;cases hb
theorem peek_short {R:List RowM} (hR:∀ r∈R,ShortR r) (p:List UInt8):(peekF R p).data.length≤20000:=by
 cases h:standsM R p with
 | false=>rw [(peek_none h).1];exact Nat.zero_le _
 | true =>
  unfold peekF
  cases hf:findM R p with
  | none=>exact Nat.zero_le _
  | some i =>
   obtain ⟨r',hr',hp⟩:=find_at hf
   show (rowF R i).data.length≤_
   unfold rowF
   rw [hr']
   exact (hR r' (List.mem_of_getElem? hr')).2
theorem look_peek {F : Nat → Prop} {w : World} {R : List RowM} {D : DataW Value} (h : FilesOK F w R D) (ho : Ord R) (p : List UInt8) :
  ∃ (dA:Option Addr) (dc:Nat),By F w (.slice dA (peekF R p).data.length dc) (peekF R p).data∧(∀ v ps,hv v=some (D.atKey (.string p) (.held zeroFile),ps)→v=.agg #[.int .i64 (peekF R p).mode,.slice dA (peekF R p).data.length dc,.int .i64 (peekF R p).time])∧Maps.has D (.string p)=peekB R p:=by
 cases hs:standsM R p with
 | false =>
  obtain ⟨h1,h2⟩:=peek_none hs
  rw [h1,h2]
  exact ⟨none,0,By.nil_ _ _,fun v ps h'=>look_miss h hs v ps h',by rw [h.has_];exact hs⟩
 | true =>
  obtain ⟨r,hr,rfl⟩:=stands_iff.1 hs
  obtain ⟨h1,h2⟩:=peek_row ho hr
  obtain ⟨d,hd,hh⟩:=look_hit h hr
  obtain ⟨A,c,rfl,_,_⟩:=hd.slice
  rw [h1,h2]
  exact ⟨A,c,hd,hh,by rw [h.has_];exact hs⟩
set_option maxRecDepth 100000 in
set_option maxHeartbeats 3200000 in
theorem peek_any {F M:Nat→Prop} {b:Nat} {c:CSt} {w:World} (p:List UInt8) (h:FcAt F w b c M) (hs:CSmall c) (hp:p.length≤1000000):Calls Tryz.prog 79 #[.pointer (some ⟨b,0,none⟩),.string (str p)] w (PeekPost w (peekF c.here p) (peekB c.here p)):=by
 obtain ⟨x,hX,_⟩:=h
 have hdl:=peek_short hs.hrow p
 obtain ⟨wa,hwa⟩:∃ wa,wa=w.alloc (.cells #[.int .i64 0,.slice none 0 0,.int .i64 0] 91):=⟨_,rfl⟩
 have hBa:Below w.heap.size w wa:=by rw [hwa];exact (Below.refl _ _).alloc (Nat.le_refl _) _
 have hba:Blk wa w.heap.size 91 #[.int .i64 0,.slice none 0 0,.int .i64 0]:=by rw [hwa];exact Blk.new _ _ _
 have hXa:=hX.below hBa
 have c6:wa.cell? ⟨b,6,none⟩=some (.pointer (some ⟨x.here,0,none⟩)):=hXa.blk.cell 6
 have c0:wa.cell? ⟨x.here,0,none⟩=some (.map (some x.hf)):=hXa.here.blk.cell 0
 obtain ⟨D,hown,hfo⟩:=hXa.here.files
 obtain ⟨dA,dc,hby,hlook,hhas⟩:=look_peek hfo hX.here.ord p
 obtain ⟨f,hf⟩:∃ f,peekF c.here p=f:=⟨_,rfl⟩
 obtain ⟨t,ht⟩:∃ t,peekB c.here p=t:=⟨_,rfl⟩
 rw [hf] at hby hlook hdl ⊢
 rw [ht] at hhas ⊢
 obtain ⟨l,hl⟩:∃ l,f.data.length=l:=⟨_,rfl⟩
 rw [hl] at hby hlook hdl
 have HL:=Lib.hid hl
 have HOWN:=Lib.hid hown
 have HLOOK:=Lib.hid hlook
 have HBY:=Lib.hid hby
 have HKEY:=Lib.hid (key_str p hp)
 have HBA:=Lib.hid hBa
 have HBLK:=Lib.hid hba
 clear hX hBa hba hXa hown hfo hby hlook hf ht hs hl
 obtain ⟨wb,hwb⟩:∃ wb,wb=wa.alloc (.cells #[.int .i64 f.mode,.slice dA l dc,.int .i64 f.time] 91):=⟨_,rfl⟩
 have hBb:Below wa.heap.size wa wb:=by rw [hwb];exact (Below.refl _ _).alloc (Nat.le_refl _) _
 have hbox:Blk wb wa.heap.size 91 #[.int .i64 f.mode,.slice dA l dc,.int .i64 f.time]:=by rw [hwb];exact Blk.new _ _ _
 have hzw:w.heap.size<wa.heap.size:=HBLK.out.lt
 have hzb:wa.heap.size<wb.heap.size:=hbox.lt
 have b1:wb.cell? ⟨wa.heap.size,1,none⟩=some (.slice dA l dc):=hbox.cell 1
 have hbyb:=HBY.out.only (Only.of_below (M:=fun _=>False) hBb) (fun _ _=>id)
 have HBYB:Hid (SlV wb (.slice dA l dc) (f.data.map bv)):=Rd.slv (by rw [List.length_map];exact hbyb)
 have HBX:=Lib.hid hbox
 have HBr:=Lib.hid (HBLK.out.below hBb hzw)
 have HBb:=Lib.hid (HBA.out.trans (hBb.mono (Nat.le_of_lt hzw)))
 clear hBb hbox hbyb
 go_enter Tryz.func79,Tryz.ntmps79
 go_upto_region 1 with (fail)
 rw [← hwa]
 clear hwa
 go_upto_region 2 with (first | fail | (at_lookup;refine wpList_lookup_own_ok _ rfl _ _ 112 rfl 9 91 lawS Tryz.underlying112 hv (zeroF _) (.held zeroFile) [] rfl x.hf _ D rfl (by exact HOWN.out) _ (.string p) rfl (by exact HKEY.out) ?_;intro v ps hv';obtain rfl:=HLOOK.out v ps hv';rw [hhas];clear hv'))
 rw [← hwb]
 clear hwb c6 c0
 go_wp2_with fail
 refine (bclone_any _ f.data _ HBYB.out (by rw [HL.out];omega)).mono ?_
 rintro e w4 ⟨v4,rfl,ho4,hb4⟩
 obtain ⟨A4,c4,rfl,_,_⟩:=ho4.length
 rw [List.length_map,HL.out] at ho4 ⊢
 have hk4:=HBX.out.below hb4 hzb
 have z4f:w4.frozen? ⟨wa.heap.size,1,none⟩=false:=hk4.frozen 1
 have z4:w4.cell? ⟨wa.heap.size,1,none⟩=some (.slice dA l dc):=hk4.cell 1
 have HK4:=Lib.hid (hk4.set_ 1 (.slice A4 l c4))
 have HR4:=Lib.hid ((HBr.out.below hb4 (Nat.lt_trans hzw hzb)).far (p:=⟨wa.heap.size,1,none⟩) (Nat.ne_of_lt hzw) (.slice A4 l c4))
 have HO4:=Lib.hid (ho4.apart (p:=⟨wa.heap.size,1,none⟩) (fun e=>by have h:=(ho4.lt _ e).1;have h2:wb.heap.size≤wa.heap.size:=h;omega) (.slice A4 l c4))
 have HB4:=Lib.hid ((HBb.out.trans (hb4.mono (Nat.le_of_lt (Nat.lt_trans hzw hzb)))).setCell (p:=⟨wa.heap.size,1,none⟩) (Nat.le_of_lt hzw) (.slice A4 l c4))
 clear ho4 hb4 hk4 b1
 go_upto_region 3 with (fail)
 generalize w4.setCell ⟨wa.heap.size,1,none⟩ (.slice A4 l c4)=w5 at *
 have r0:w5.cell? ⟨wa.heap.size,0,none⟩=some (.int .i64 f.mode):=HK4.out.cell 0
 have r1:w5.cell? ⟨wa.heap.size,1,none⟩=some (.slice A4 l c4):=HK4.out.cell 1
 have r2:w5.cell? ⟨wa.heap.size,2,none⟩=some (.int .i64 f.time):=HK4.out.cell 2
 have a0:w5.cell? ⟨w.heap.size,0,none⟩=some (.int .i64 0):=HR4.out.cell 0
 have a1:w5.cell? ⟨w.heap.size,1,none⟩=some (.slice none 0 0):=HR4.out.cell 1
 have a2:w5.cell? ⟨w.heap.size,2,none⟩=some (.int .i64 0):=HR4.out.cell 2
 have f0:w5.frozen? ⟨w.heap.size,0,none⟩=false:=HR4.out.frozen 0
 have f1:w5.frozen? ⟨w.heap.size,1,none⟩=false:=HR4.out.frozen 1
 have f2:w5.frozen? ⟨w.heap.size,2,none⟩=false:=HR4.out.frozen 2
 have hbc:Blk (((w5.setCell ⟨w.heap.size,0,none⟩ (.int .i64 f.mode)).setCell ⟨w.heap.size,1,none⟩ (.slice A4 l c4)).setCell ⟨w.heap.size,2,none⟩ (.int .i64 f.time)) w.heap.size 91 #[.int .i64 f.mode,.slice A4 l c4,.int .i64 f.time]:=((HR4.out.set_ 0 (.int .i64 f.mode)).set_ 1 (.slice A4 l c4)).set_ 2 (.int .i64 f.time)
 have hBc:Below w.heap.size w (((w5.setCell ⟨w.heap.size,0,none⟩ (.int .i64 f.mode)).setCell ⟨w.heap.size,1,none⟩ (.slice A4 l c4)).setCell ⟨w.heap.size,2,none⟩ (.int .i64 f.time)):=((HB4.out.setCell (p:=⟨w.heap.size,0,none⟩) (Nat.le_refl _) _).setCell (p:=⟨w.heap.size,1,none⟩) (Nat.le_refl _) _).setCell (p:=⟨w.heap.size,2,none⟩) (Nat.le_refl _) _
 have hne:∀ k,(Value.slice A4 l c4).ownBlock≠some (⟨w.heap.size,k,none⟩:Addr).block:=fun k e=>by
  have h:=(HO4.out.lt _ e).1
  have h2:wb.heap.size≤w.heap.size:=h
  omega
 have hoc:OwnV 5 (((w5.setCell ⟨w.heap.size,0,none⟩ (.int .i64 f.mode)).setCell ⟨w.heap.size,1,none⟩ (.slice A4 l c4)).setCell ⟨w.heap.size,2,none⟩ (.int .i64 f.time)) wb.heap.size (.slice A4 l c4) (f.data.map bv):=((HO4.out.apart (hne 0) _).apart (hne 1) _).apart (hne 2) _
 have HBC:=Lib.hid hbc
 have HBB:=Lib.hid hBc
 have HOC:=Lib.hid hoc
 clear hbc hBc hoc hne
 go_wp2_with fail
 generalize ((w5.setCell ⟨w.heap.size,0,none⟩ (.int .i64 f.mode)).setCell ⟨w.heap.size,1,none⟩ (.slice A4 l c4)).setCell ⟨w.heap.size,2,none⟩ (.int .i64 f.time)=wc at *
 have q0:wc.cell? ⟨w.heap.size,0,none⟩=some (.int .i64 f.mode):=HBC.out.cell 0
 have q1:wc.cell? ⟨w.heap.size,1,none⟩=some (.slice A4 l c4):=HBC.out.cell 1
 have q2:wc.cell? ⟨w.heap.size,2,none⟩=some (.int .i64 f.time):=HBC.out.cell 2
 refine bodyPost_ret (v:=.tuple #[.agg #[.int .i64 f.mode,.slice A4 l c4,.int .i64 f.time],.bool t]) (by simp [results,Tryz.results79,go_sem,q0,q1,q2]) rfl ⟨_,rfl,⟨_,rfl,HOC.out.base (by omega)⟩,HBB.out⟩
end Go.Proofs.YtlkolcokjmlmjaaGreat.Tx
namespace Go.Proofs.YtlkolcokjmlmjaaGreat.Tx
open Go.RowKit Go.Maps Go.Proofs.YtlkolcokjmlmjaaGreat.Sh
section
variable {F F' M:Nat→Prop} {w w' wf:World} {b:Nat} {c c':CSt} {x x':FcV}
theorem FcX.users_ (hX : FcX F w b c x) (hM : ∀ k, M k ↔ fcM b x k) {wl w5 : World} {v5 : Value} {p' : List EvM} (hl : Below w.heap.size w wl) (hg : wl.grownBy w5 x.users.ownBlock) (hown : OwnL evK 109 F w5 0 v5 p') (hk : v5.ownBlock = x.users.ownBlock ∨ v5.ownBlock = some wl.heap.size ∨ v5.ownBlock = none) :
  FcPost F M w b { c with users:=p' } (w5.setCell ⟨b,5,none⟩ v5):=by
 have hz2:=hl.size
 have hz3:=hg.size
 have hbw:b<w.heap.size:=hX.blk.lt
 have o5:Only (fun k=>x.users.ownBlock=some k) w w5:=(Only.of_below hl).trans (M':=fun k=>x.users.ownBlock=some k) ⟨hg.os,hg.tape,hg.output,hg.size,fun k hk hn=>hg.block k hk (fun e=>hn e.symm)⟩ (fun k hk=>.inl hk)
 have ow:Only (fun k=>k=b∨x.users.ownBlock=some k) w (w5.setCell ⟨b,5,none⟩ v5):=Only.set_ (M:=fun k=>k=b∨x.users.ownBlock=some k) (g:=b) (i:=5) (o5.more (fun k _ h=>.inr h)) (.inl (.inl rfl)) v5
 have hF:∀ k,F k→¬ (k=b∨x.users.ownBlock=some k):=fun k hk e=>by
  rcases e with e | e
  ·exact hX.Fb k hk e
  ·exact hX.users.2 k e hk
 have hblk5:Blk w5 b 68 (fcC c x):=(hX.blk.below hl hbw).grown hg (fun e=>hX.ub e.symm)
 have hvb:v5.ownBlock≠some b:=fun e=>by
  obtain ⟨cs,hc⟩:=hown.blk e
  exact hc.ne_ hblk5 (by decide) rfl
 refine fc_fin (x':={ x with users:=v5 }) hX hM (ow.more (fun k _ h=>?_)) (fun k hk'=>?_) (hblk5.set_ 5 v5) ?_ ?_ ?_ ?_ ?_ hX.apart
 ·rcases h with h | h
  ·exact .inl h
  ·exact .inr (.inr (.inr (.inr h)))
 ·rcases hk' with h | h | h | h | h
  ·exact .inl (.inl h)
  ·exact .inl (.inr (.inl h))
  ·exact .inl (.inr (.inr (.inl h)))
  ·exact .inl (.inr (.inr (.inr (.inl h))))
  ·have h':v5.ownBlock=some k:=h
   rcases hk with e | e | e
   ·exact .inl (.inr (.inr (.inr (.inr (by rw [← e];exact h')))))
   ·right
    rw [e] at h'
    injection h' with h'
    omega
   ·rw [e] at h';cases h'
 ·exact hX.hereG ow hF (fun k hk e => by
   rcases e with e | e
   ·exact hX.hb (e ▸ hk)
   ·exact hX.hu' k hk e)
 ·exact hX.durG ow hF (fun k hk e => by
   rcases e with e | e
   ·exact hX.db (e ▸ hk)
   ·exact hX.du' k hk e)
 ·exact hX.pendG ow hF (fun k hk e => by
   rcases e with e | e
   ·exact hX.pb (e ▸ hk)
   ·exact hX.pu k hk e) (fun k hk=>.inr (.inr (.inr (.inl hk))))
 ·exact hX.planG ow hF
 ·refine (hown.only (M:=fun k=>k=b) (Only.set_ (M:=fun k=>k=b) (g:=b) (i:=5) (Only.refl _ w5) (.inl rfl) v5) hX.Fb (fun k hk e=>hvb (by rw [hk,e]))).toG (fun k _ h=>.inl h) (fun k hk=>.inr (.inr (.inr (.inr hk)))) hown.2
end
abbrev EvsF (F:Nat→Prop) (w:World) (v:Value) (l:List EvM):Prop:=TmpL evK F w v l
theorem evs_slice {F:Nat→Prop} {w:World} {v:Value} {l:List EvM} (h:EvsF F w v l):∃ A c,v=.slice A l.length c∧l.length≤c∧c≤maxLen:=h.slice
def noteC (c:CSt) (e:EvM):CSt:=settleC { c with users:=c.users++[{ e with at_:=c.calls }] }
theorem settle_users {c:CSt} (l:List EvM) (hs:CSmall c) (h:l.length≤900000):CSmall { c with users:=l }:=⟨hs.here,hs.both,h,hs.time,hs.hused,hs.hrow,hs.drow,hs.prow⟩
set_option maxRecDepth 100000 in
set_option maxHeartbeats 6400000 in
theorem note_any (F M : Nat → Prop) (b : Nat) (c : CSt) (e0 : EvM) (d : Value) (w : World) (h : FcAt F w b c M) (hd : By F w d e0.data) (hs : CSmall c) (hn : c.users.length ≤ 800000) :
  Calls Tryz.prog 105 #[.pointer (some ⟨b,0,none⟩),.agg #[.int .i64 e0.at_,.int .i64 e0.kind,.int .i64 e0.mode,.int .i64 e0.keep,.int .i64 e0.torn,.string (str e0.path),d]] w fun e w'=>e=.returned (.tuple #[])∧FcPost F M w b (noteC c e0) w':=by
 have HAT:=Lib.hid h
 obtain ⟨x,hX,hM⟩:=h
 obtain ⟨dA,dc,rfl,_,_⟩:=hd.slice
 obtain ⟨dl,hdl⟩:∃ dl,e0.data.length=dl:=⟨_,rfl⟩
 rw [hdl] at hd ⊢
 obtain ⟨wb,hwb⟩:∃ wb,wb=w.alloc (.cells #[.int .i64 e0.at_,.int .i64 e0.kind,.int .i64 e0.mode,.int .i64 e0.keep,.int .i64 e0.torn,.string (str e0.path),.slice dA dl dc] 109):=⟨_,rfl⟩
 have hB:Below w.heap.size w wb:=by rw [hwb];exact (Below.refl _ _).alloc (Nat.le_refl _) _
 have hbox:Blk wb w.heap.size 109 #[.int .i64 e0.at_,.int .i64 e0.kind,.int .i64 e0.mode,.int .i64 e0.keep,.int .i64 e0.torn,.string (str e0.path),.slice dA dl dc]:=by rw [hwb];exact Blk.new _ _ _
 have hblt:=hX.blk.lt
 have hne:w.heap.size≠b:=by omega
 obtain ⟨cn,hcn⟩:∃ cn,c.calls=cn:=⟨_,rfl⟩
 have z0:wb.frozen? ⟨w.heap.size,0,none⟩=false:=hbox.frozen 0
 have z1:wb.cell? ⟨w.heap.size,0,none⟩=some (.int .i64 e0.at_):=hbox.cell 0
 have HBOX1:Hid (Blk (wb.setCell ⟨w.heap.size,0,none⟩ (.int .i64 cn)) w.heap.size 109 #[.int .i64 cn,.int .i64 e0.kind,.int .i64 e0.mode,.int .i64 e0.keep,.int .i64 e0.torn,.string (str e0.path),.slice dA dl dc]):=hbox.set_ 0 _
 have hB1:Below w.heap.size w (wb.setCell ⟨w.heap.size,0,none⟩ (.int .i64 cn)):=hB.setCell (p:=⟨w.heap.size,0,none⟩) (Nat.le_refl _) _
 have HB1:=Lib.hid hB1
 have HX1:=Lib.hid (hX.below hB1)
 have HX:=Lib.hid hX
 have HMM:=Lib.hid hM
 have HCN:=Lib.hid hcn
 have HD:Hid (By F (wb.setCell ⟨w.heap.size,0,none⟩ (.int .i64 cn)) (.slice dA dl dc) e0.data):=(by rw [← hdl] at hd ⊢;exact hd.only (Only.of_below (M:=fun _=>False) hB1) (fun _ _=>id))
 have HS:=Lib.hid hs
 have HN:=Lib.hid hn
 have HAB:=Lib.hid (HAT.out.below hB)
 clear hX hM hB hbox hcn hd hs hn hB1 hdl
 go_enter Tryz.func105,Tryz.ntmps105
 go_upto_region 1 with (fail)
 rw [← hwb]
 clear hwb
 go_upto_region 2 with (go_at_call 67;refine (calls_any HAB.out).mono ?_;rintro e w' ⟨rfl,rfl⟩;rw [HCN.out])
 generalize wb.setCell ⟨w.heap.size,0,none⟩ (.int .i64 cn)=w2 at *
 have hbx:=HBOX1.out
 obtain ⟨r0,r1,r2,r3,r4,r5,r6⟩:w2.cell? ⟨w.heap.size,0,none⟩=some (.int .i64 cn)∧w2.cell? ⟨w.heap.size,1,none⟩=some (.int .i64 e0.kind)∧w2.cell? ⟨w.heap.size,2,none⟩=some (.int .i64 e0.mode)∧w2.cell? ⟨w.heap.size,3,none⟩=some (.int .i64 e0.keep)∧w2.cell? ⟨w.heap.size,4,none⟩=some (.int .i64 e0.torn)∧w2.cell? ⟨w.heap.size,5,none⟩=some (.string (str e0.path))∧w2.cell? ⟨w.heap.size,6,none⟩=some (.slice dA dl dc):=⟨hbx.cell 0,hbx.cell 1,hbx.cell 2,hbx.cell 3,hbx.cell 4,hbx.cell 5,hbx.cell 6⟩
 have p8:w2.cell? ⟨b,5,none⟩=some x.users:=HX1.out.blk.cell 5
 clear hbx z0 z1
 have HPA:=Lib.hid (HX1.out.users.alloc (.cells #[.int .i64 cn,.int .i64 e0.kind,.int .i64 e0.mode,.int .i64 e0.keep,.int .i64 e0.torn,.string (str e0.path),.slice dA dl dc] 109))
 have HPD:=Lib.hid (HX1.out.users.drew.alloc (.cells #[.int .i64 cn,.int .i64 e0.kind,.int .i64 e0.mode,.int .i64 e0.keep,.int .i64 e0.torn,.string (str e0.path),.slice dA dl dc] 109))
 have HLA:=Lib.hid (TmpL.one (K:=evK) (F:=F) (a:=({ e0 with at_:=cn }:EvM)) (d:=.slice dA dl dc) (Blk.new w2 109 #[.int .i64 cn,.int .i64 e0.kind,.int .i64 e0.mode,.int .i64 e0.keep,.int .i64 e0.torn,.string (str e0.path),.slice dA dl dc]) rfl (HD.out.only ((Only.refl (fun _=>False) w2).alloc _) (fun _ _=>id)))
 have HLD:=Lib.hid (TmpL.one (K:=evK) (F:=F) (a:=({ e0 with at_:=cn }:EvM)) (d:=.slice dA dl dc) (Blk.new w2.drew 109 #[.int .i64 cn,.int .i64 e0.kind,.int .i64 e0.mode,.int .i64 e0.keep,.int .i64 e0.torn,.string (str e0.path),.slice dA dl dc]) rfl (HD.out.only (((Only.refl (fun _=>False) w2).drew).alloc _) (fun _ _=>id)))
 have HFP:Hid (∀ k,F k→k<(w2.alloc (.cells #[.int .i64 cn,.int .i64 e0.kind,.int .i64 e0.mode,.int .i64 e0.keep,.int .i64 e0.torn,.string (str e0.path),.slice dA dl dc] 109)).heap.size):=fun k hk=>by have:=HX1.out.low k hk;simp;omega
 have s1:Hid (c.users.length+[({ e0 with at_:=cn }:EvM)].length≤2000000):=by unfold Hid;have:=HN.out;simp;omega
 have p8a:(w2.alloc (.cells #[.int .i64 cn,.int .i64 e0.kind,.int .i64 e0.mode,.int .i64 e0.keep,.int .i64 e0.torn,.string (str e0.path),.slice dA dl dc] 109)).cell? ⟨b,5,none⟩=some x.users:=(HX1.out.blk.alloc _).cell 5
 go_cut [] (fun wx=>∃ wl w5 v5,wx=w5.setCell ⟨b,5,none⟩ v5∧Below w2.heap.size w2 wl∧wl.grownBy w5 x.users.ownBlock∧OwnL evK 109 F w5 0 v5 (c.users++[({ e0 with at_:=cn }:EvM)])∧(v5.ownBlock=x.users.ownBlock∨v5.ownBlock=some wl.heap.size))
 case first =>
  go_region_law (refine step_appendL typed_fe (v:=x.users) (ex:=.slice (some ⟨w2.heap.size,0,none⟩) 1 1) (l2:=[({ e0 with at_:=cn }:EvM)]) rfl (.tmp 11) (.tmp 13) rfl (by first | exact HPA.out.drew | exact HPA.out | exact HPD.out) (by first | exact HLA.out.drew | exact HLA.out | exact HLD.out) (by rfl) (by rfl) s1.out (by exact Nat.zero_le _) (by exact HFP.out) ?_;intro v5 w5 ho5 hg5 hk5;obtain ⟨A5,c5,hv5,_,_⟩:=evs_slice ho5.tmp;subst hv5;have hb5:Blk w5 b 68 (fcC c x):=(HX1.out.blk.alloc _).drew.grown hg5 (fun e=>HX1.out.ub e.symm);have y3:w5.cell? ⟨b,5,none⟩=some x.users:=hb5.cell 5;have y3f:w5.frozen? ⟨b,5,none⟩=false:=hb5.frozen 5;have HO5:=Lib.hid ho5;have HG5:=Lib.hid hg5;have HK5:=Lib.hid hk5;clear ho5 hg5 hk5 hb5)
  all_goals
   go_wp2_with fail
   go_meet
   exact ⟨_,_,_,rfl,((Below.refl _ _).alloc (Nat.le_refl _) _).drew,HG5.out,HO5.out,HK5.out⟩
 case rest =>
  obtain ⟨wl,w5,v5,rfl,hl5,hg5,ho5,hk5⟩:=hcut
  have hpo:=HX1.out.users_ HMM.out hl5 hg5 ho5 (hk5.imp id .inl)
  obtain ⟨M1,hat1,hon1,hsub1⟩:=hpo
  have HA1:=Lib.hid hat1
  have HO1:=Lib.hid hon1
  have HS1:=Lib.hid hsub1
  clear hat1 hon1 hsub1 hl5 hg5 ho5 hk5 r0 r1 r2 r3 r4 r5 r6 p8 p8a
  go_wp2_with fail
  refine (settle_any _ M1 b _ _ HA1.out (settle_users _ HS.out (by have:=HN.out;simp;omega))).mono ?_
  rintro e w6 ⟨rfl,hp6⟩
  have HP6:=Lib.hid (FcPost.of_below HB1.out (FcPost.trans HO1.out HS1.out hp6))
  clear hp6
  go_wp2_with fail
  go_end0
  refine ⟨rfl,?_⟩
  have h6:=HP6.out
  rw [← HCN.out] at h6
  exact h6
end Go.Proofs.YtlkolcokjmlmjaaGreat.Tx
