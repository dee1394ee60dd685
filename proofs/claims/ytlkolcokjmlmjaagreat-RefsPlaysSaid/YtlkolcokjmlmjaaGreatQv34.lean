/- Texts put together: VRg1. -/
import Derived.Test.YtlkolcokjmlmjaaGreatQv31
import Derived.Test.YtlkolcokjmlmjaaGreatQv33
set_option linter.unusedVariables false
set_option linter.unusedSimpArgs false
namespace Go.Proofs.YtlkolcokjmlmjaaGreat.Tx
open Go.RowKit Go.Maps Go.Proofs.YtlkolcokjmlmjaaGreat.Sh
set_option maxRecDepth 100000 in
set_option maxHeartbeats 3200000 in
theorem sls_any (F M : Nat → Prop) (b : Nat) (c : CSt) (i : Nat) (n old : List UInt8) (w : World) (h : FcAt F w b c M) (hg : GoS c i) (hi : i ≤ 390000) (hn : n.length ≤ 900000) (hol : old.length ≤ 900000) :
  Calls Tryz.prog 33 #[.pointer (some ⟨b,0,none⟩),.string (Tx.str n),.string (Tx.str old)] w fun e w'=>e=.returned (.int .i64 (slE c n old))∧FcPost F M w b (slC c n old) w':=by
 have H:=Lib.hid h
 have HG:=Lib.hid hg
 have HG1:=Lib.hid hg.bg
 have HG2:=Lib.hid (hg.prep n old)
 have HG3:=Lib.hid ((hg.prep n old).mov (lockP n) (refP n) false)
 obtain ⟨e1,he1⟩:∃ k,expE c n old=k:=⟨_,rfl⟩
 have HE1:=Lib.hid he1
 obtain ⟨c1,hc1⟩:∃ x,(bgC c).c=x:=⟨_,rfl⟩
 have HC1:=Lib.hid hc1
 rw [hc1] at HG1
 obtain ⟨c2,hc2⟩:∃ x,prepC c n old=x:=⟨_,rfl⟩
 have HC2:=Lib.hid hc2
 rw [hc2] at HG2 HG3
 have HLN:Hid ((lockP n).length≤1000000∧(refP n).length≤1000000):=by unfold Hid;rw [lockP_len,refP_len];omega
 clear h hg he1 hc1 hc2
 have HFAIL:Hid (∀ k,prepE c n old=k→k≠0→slE c n old=k∧slC c n old=remC c2 (lockP n)):=fun k hk hk0=>⟨by unfold slE;rw [hk,if_neg hk0],by unfold slC;rw [hk,if_neg hk0,HC2.out]⟩
 go_enter Tryz.func33,Tryz.ntmps33
 go_wp2_with fail
 refine (exp_any F M b c _ n old w H.out (HG.out.ready (by omega)) hn hol).mono ?_
 rintro e w2 ⟨rfl,hp⟩
 rw [HE1.out]
 rw [HC1.out] at hp
 have HP1:=Lib.hid hp
 clear hp
 by_cases h0:e1=0
 ·subst h0
  obtain ⟨e2,he2⟩:∃ k,bgE c1=k:=⟨_,rfl⟩
  have HE2:=Lib.hid he2
  have HX:Hid (prepE c n old=e2∧synC c1=c2):=by
   refine ⟨?_,?_⟩
   ·unfold prepE;rw [if_pos HE1.out,HC1.out];exact HE2.out
   ·rw [← HC2.out];unfold prepC;rw [if_pos HE1.out,HC1.out]
  obtain ⟨M1,g1,g2,g3⟩:=HP1.out
  have HA:=Lib.hid g1
  have HB:=Lib.hid g2
  have HC:=Lib.hid g3
  clear he2 g1 g2 g3
  go_wp2_with fail
  refine (syncf_any _ M1 b c1 _ w2 HA.out (HG1.out.ready (by omega))).mono ?_
  rintro e w3 ⟨rfl,hp⟩
  rw [HX.out.2] at hp
  have HP2:=Lib.hid (FcPost.trans HB.out HC.out hp)
  rw [HE2.out]
  clear hp HA HB HC
  by_cases h2:e2=0
  ·subst h2
   obtain ⟨e3,he3⟩:∃ k,movE c2 (lockP n) (refP n) false=k:=⟨_,rfl⟩
   have HE3:=Lib.hid he3
   obtain ⟨c3,hc3⟩:∃ k,movC c2 (lockP n) (refP n) false=k:=⟨_,rfl⟩
   have HC3:=Lib.hid hc3
   rw [hc3] at HG3
   obtain ⟨M1,g1,g2,g3⟩:=HP2.out
   have HA:=Lib.hid g1
   have HB:=Lib.hid g2
   have HC:=Lib.hid g3
   clear he3 hc3 g1 g2 g3
   go_wp2_with fail
   refine (lock_any n w3 hn).mono ?_
   rintro e w4 ⟨rfl,rfl⟩
   go_wp2_with fail
   refine (place_any n w3 hn).mono ?_
   rintro e w4 ⟨rfl,rfl⟩
   go_wp2_with fail
   refine (movef_any _ M1 b c2 _ (lockP n) (refP n) w3 HA.out (HG2.out.ready (by omega)) HLN.out.1 HLN.out.2).mono ?_
   rintro e w4 ⟨rfl,hp⟩
   rw [HC3.out] at hp
   rw [HE3.out]
   have HP3:=Lib.hid (FcPost.trans HB.out HC.out hp)
   clear hp HA HB HC
   by_cases h3:e3=0
   ·subst h3
    obtain ⟨e4,he4⟩:∃ k,bgE c3=k:=⟨_,rfl⟩
    have HE4:=Lib.hid he4
    have HEND:Hid (slE c n old=e4∧slC c n old=synC c3):=⟨by unfold slE;rw [if_pos HX.out.1,HC2.out,HE3.out,if_pos rfl,HC3.out,HE4.out],by unfold slC;rw [if_pos HX.out.1,HC2.out,HE3.out,if_pos rfl,HC3.out]⟩
    obtain ⟨M1,g1,g2,g3⟩:=HP3.out
    have HA:=Lib.hid g1
    have HB:=Lib.hid g2
    have HC:=Lib.hid g3
    clear he4 g1 g2 g3
    go_wp2_with fail
    refine (syncf_any _ M1 b c3 _ w4 HA.out (HG3.out.ready (by omega))).mono ?_
    rintro e w5 ⟨rfl,hp⟩
    have HP4:=Lib.hid (FcPost.trans HB.out HC.out hp)
    rw [HE4.out]
    clear hp HA HB HC
    go_wp2_with fail
    go_ret
    exact ⟨by rw [HEND.out.1];rfl,by rw [HEND.out.2];exact HP4.out⟩
   ·have HEND:Hid (slE c n old=e3∧slC c n old=c3):=⟨by unfold slE;rw [if_pos HX.out.1,HC2.out,HE3.out,if_neg h3],by unfold slC;rw [if_pos HX.out.1,HC2.out,HE3.out,if_neg h3,HC3.out]⟩
    have y0:(e3 != 0)=true:=by simpa using h3
    have y1:(e3==0)=false:=by rw [beq_eq_false_iff_ne];exact h3
    clear h3
    go_wp2_with fail
    go_ret
    exact ⟨by rw [HEND.out.1];rfl,by rw [HEND.out.2];exact HP3.out⟩
  ·have HEND:=Lib.hid (HFAIL.out e2 HX.out.1 h2)
   have y0:(e2 != 0)=true:=by simpa using h2
   have y1:(e2==0)=false:=by rw [beq_eq_false_iff_ne];exact h2
   obtain ⟨M1,g1,g2,g3⟩:=HP2.out
   have HA:=Lib.hid g1
   have HB:=Lib.hid g2
   have HC:=Lib.hid g3
   clear h2 g1 g2 g3
   go_wp2_with fail
   refine (lock_any n w3 hn).mono ?_
   rintro e w4 ⟨rfl,rfl⟩
   go_wp2_with fail
   refine (removef_any _ M1 b c2 _ (lockP n) w3 HA.out (HG2.out.ready (by omega)) HLN.out.1).mono ?_
   rintro e w4 ⟨rfl,hp⟩
   have HP3:=Lib.hid (FcPost.trans HB.out HC.out hp)
   clear hp HA HB HC
   go_wp2_with fail
   go_ret
   exact ⟨by rw [HEND.out.1];rfl,by rw [HEND.out.2];exact HP3.out⟩
 ·have HX : Hid (prepE c n old = e1 ∧ c1 = c2) := by
   refine ⟨by unfold prepE;rw [HE1.out,if_neg h0],?_⟩
   rw [← HC2.out,← HC1.out];unfold prepC;rw [HE1.out,if_neg h0]
  have HEND:=Lib.hid (HFAIL.out e1 HX.out.1 h0)
  have y0:(e1 != 0)=true:=by simpa using h0
  have y1:(e1==0)=false:=by rw [beq_eq_false_iff_ne];exact h0
  obtain ⟨M1,g1,g2,g3⟩:=HP1.out
  rw [HX.out.2] at g1
  have HA:=Lib.hid g1
  have HB:=Lib.hid g2
  have HC:=Lib.hid g3
  clear h0 g1 g2 g3
  go_wp2_with fail
  refine (lock_any n w2 hn).mono ?_
  rintro e w4 ⟨rfl,rfl⟩
  go_wp2_with fail
  refine (removef_any _ M1 b c2 _ (lockP n) w2 HA.out (HG2.out.ready (by omega)) HLN.out.1).mono ?_
  rintro e w4 ⟨rfl,hp⟩
  have HP3:=Lib.hid (FcPost.trans HB.out HC.out hp)
  clear hp HA HB HC
  go_wp2_with fail
  go_ret
  exact ⟨by rw [HEND.out.1];rfl,by rw [HEND.out.2];exact HP3.out⟩
set_option maxRecDepth 100000 in
set_option maxHeartbeats 3200000 in
theorem sets_any (F M : Nat → Prop) (b : Nat) (c : CSt) (i : Nat) (n old new : List UInt8) (w : World) (h : FcAt F w b c M) (hg : GoS c i) (hi : i ≤ 380000) (hn : n.length ≤ 900000) (hol : old.length ≤ 900000) (hnl : new.length ≤ 900000) :
  Calls Tryz.prog 10 #[.pointer (some ⟨b,0,none⟩),.string (Tx.str n),.string (Tx.str old),.string (Tx.str new)] w fun e w'=>e=.returned (.int .i64 (setE c n old new))∧FcPost F M w b (setC c n old new) w':=by
 have H:=Lib.hid h
 have HG:=Lib.hid hg
 have hb:¬ 9223372036854775807<(str new).size+1:=by rw [str_size];omega
 have hcat:=end_cat new
 obtain ⟨t,ht⟩:∃ t,nameB n=t:=⟨_,rfl⟩
 have HT:=Lib.hid ht
 obtain ⟨v,hv⟩:∃ t,validB new=t:=⟨_,rfl⟩
 have HV:=Lib.hid hv
 have HRF:Hid (FcPost F M w b c w):=FcPost.refl h
 clear h hg ht hv
 go_enter Tryz.func10,Tryz.ntmps10
 go_wp2_with fail
 refine (cname_any n w (by omega)).mono ?_
 rintro e w1 ⟨rfl,rfl⟩
 rw [HT.out]
 cases t with
 | false =>
  have HE:=Lib.hid (set_noname (c:=c) HT.out old new)
  go_wp2_with fail
  go_ret
  exact ⟨by rw [HE.out.1];rfl,by rw [HE.out.2];exact HRF.out⟩
 | true =>
  go_wp2_with fail
  refine (valid_any new v HV.out w (by omega)).mono ?_
  rintro e w1 ⟨rfl,rfl⟩
  cases v with
  | false =>
   have HE:=Lib.hid (set_range (c:=c) (old:=old) HT.out (.inl HV.out))
   go_wp2_with fail
   go_ret
   exact ⟨by rw [HE.out.1];rfl,by rw [HE.out.2];exact HRF.out⟩
  | true =>
   have key:∀ (hgood:old=[]∨validB old=true),Hid (setE c n old new=(if crtE c (lockP n) 1 (new++[10]) true=0 then slE (crtC c (lockP n) 1 (new++[10]) true) n old else if crtE c (lockP n) 1 (new++[10]) true=8 then 13 else crtE c (lockP n) 1 (new++[10]) true) ∧
  setC c n old new=(if crtE c (lockP n) 1 (new++[10]) true=0 then slC (crtC c (lockP n) 1 (new++[10]) true) n old else crtC c (lockP n) 1 (new++[10]) true)):=fun hgood=>set_good HT.out HV.out hgood
   have KEY:=Lib.hid key
   clear key
   by_cases ho:old=[]
   ·have HS:=KEY.out (.inl ho)
    obtain ⟨z2,z3⟩:=str_nil ho
    clear ho KEY
    go_wp2_with fail
    refine (lock_any n w hn).mono ?_
    rintro e w1 ⟨rfl,rfl⟩
    obtain ⟨wn,cap,hconv,hbn,hzn,hby⟩:=bytes_new w (new++[10]) (by simp;omega)
    have h65:(new++[10]).length=65:=by simp [valid_len HV.out]
    rw [h65] at hconv hby
    clear h65
    have HBN:=Lib.hid hbn
    have HBY:=Lib.hid hby
    obtain ⟨e1,he1⟩:∃ k,crtE c (lockP n) 1 (new++[10]) true=k:=⟨_,rfl⟩
    obtain ⟨c1,hc1⟩:∃ k,crtC c (lockP n) 1 (new++[10]) true=k:=⟨_,rfl⟩
    have HE1:=Lib.hid he1
    have HC1:=Lib.hid hc1
    have HG1:Hid (GoS c1 (i+1)):=by rw [← hc1];exact HG.out.crt _ _ _ _
    rw [he1,hc1] at HS
    clear hbn hzn hby he1 hc1
    go_wp2_with fail
    refine (create_any F M b c _ (lockP n) 1 (.slice (some ⟨w.heap.size,0,none⟩) 65 cap) (new++[10]) (fun k=>k=w.heap.size) wn (H.out.below HBN.out) (HG.out.ready (by omega)) HBY.out (fun k hk hm=>by have:=H.out.lt k hm;omega) (by rw [lockP_len];omega)).mono ?_
    rintro e w2 ⟨rfl,hp⟩
    rw [HC1.out] at hp
    have HP1:=Lib.hid (FcPost.of_below HBN.out hp)
    rw [HE1.out]
    clear hp hconv HBY
    by_cases h0:e1=0
    ·subst h0
     have HEND:Hid (setE c n old new=slE c1 n old∧setC c n old new=slC c1 n old):=HS.out
     obtain ⟨M1,g1,g2,g3⟩:=HP1.out
     have HA:=Lib.hid g1
     have HB:=Lib.hid g2
     have HC:=Lib.hid g3
     clear g1 g2 g3 HS
     go_wp2_with fail
     refine (sls_any _ M1 b c1 (i+1) n old w2 HA.out HG1.out (by omega) hn hol).mono ?_
     rintro e w3 ⟨rfl,hp⟩
     have HP2:=Lib.hid (FcPost.trans HB.out HC.out hp)
     clear hp HA HB HC
     obtain ⟨e2,he2⟩:∃ k,slE c1 n old=k:=⟨_,rfl⟩
     have HE2:=Lib.hid he2
     rw [he2]
     clear he2
     go_wp2_with fail
     go_ret
     exact ⟨by rw [HEND.out.1,HE2.out];rfl,by rw [HEND.out.2];exact HP2.out⟩
    ·have y1:(e1==0)=false:=by rw [beq_eq_false_iff_ne];exact h0
     by_cases h8:e1=8
     ·subst h8
      have HEND:Hid (setE c n old new=13∧setC c n old new=c1):=HS.out
      clear HS h0 y1
      go_wp2_with fail
      go_ret
      exact ⟨by rw [HEND.out.1];rfl,by rw [HEND.out.2];exact HP1.out⟩
     ·have y8:(e1==8)=false:=by rw [beq_eq_false_iff_ne];exact h8
      have HEND:Hid (setE c n old new=e1∧setC c n old new=c1):=by have h:=HS.out;rwa [if_neg h0,if_neg h0,if_neg h8] at h
      clear HS h0 h8
      go_wp2_with fail
      go_ret
      exact ⟨by rw [HEND.out.1];rfl,by rw [HEND.out.2];exact HP1.out⟩
   ·obtain ⟨z2,z3⟩:=str_some ho
    obtain ⟨q,hq⟩:∃ t,validB old=t:=⟨_,rfl⟩
    have HQ:=Lib.hid hq
    have HO:=Lib.hid ho
    clear ho hq
    go_wp2_with fail
    refine (valid_any old q HQ.out w (by omega)).mono ?_
    rintro e w1 ⟨rfl,rfl⟩
    cases q with
    | false =>
     have HE:=Lib.hid (set_range (c:=c) (old:=old) (new:=new) HT.out (.inr ⟨HO.out,HQ.out⟩))
     go_wp2_with fail
     go_ret
     exact ⟨by rw [HE.out.1];rfl,by rw [HE.out.2];exact HRF.out⟩
    | true =>
     have HS:=KEY.out (.inr HQ.out)
     clear KEY
     go_wp2_with fail
     refine (lock_any n w hn).mono ?_
     rintro e w1 ⟨rfl,rfl⟩
     obtain ⟨wn,cap,hconv,hbn,hzn,hby⟩:=bytes_new w (new++[10]) (by simp;omega)
     have h65:(new++[10]).length=65:=by simp [valid_len HV.out]
     rw [h65] at hconv hby
     clear h65
     have HBN:=Lib.hid hbn
     have HBY:=Lib.hid hby
     obtain ⟨e1,he1⟩:∃ k,crtE c (lockP n) 1 (new++[10]) true=k:=⟨_,rfl⟩
     obtain ⟨c1,hc1⟩:∃ k,crtC c (lockP n) 1 (new++[10]) true=k:=⟨_,rfl⟩
     have HE1:=Lib.hid he1
     have HC1:=Lib.hid hc1
     have HG1:Hid (GoS c1 (i+1)):=by rw [← hc1];exact HG.out.crt _ _ _ _
     rw [he1,hc1] at HS
     clear hbn hzn hby he1 hc1
     go_wp2_with fail
     refine (create_any F M b c _ (lockP n) 1 (.slice (some ⟨w.heap.size,0,none⟩) 65 cap) (new++[10]) (fun k=>k=w.heap.size) wn (H.out.below HBN.out) (HG.out.ready (by omega)) HBY.out (fun k hk hm=>by have:=H.out.lt k hm;omega) (by rw [lockP_len];omega)).mono ?_
     rintro e w2 ⟨rfl,hp⟩
     rw [HC1.out] at hp
     have HP1:=Lib.hid (FcPost.of_below HBN.out hp)
     rw [HE1.out]
     clear hp hconv HBY
     by_cases h0:e1=0
     ·subst h0
      have HEND:Hid (setE c n old new=slE c1 n old∧setC c n old new=slC c1 n old):=HS.out
      obtain ⟨M1,g1,g2,g3⟩:=HP1.out
      have HA:=Lib.hid g1
      have HB:=Lib.hid g2
      have HC:=Lib.hid g3
      clear g1 g2 g3 HS
      go_wp2_with fail
      refine (sls_any _ M1 b c1 (i+1) n old w2 HA.out HG1.out (by omega) hn hol).mono ?_
      rintro e w3 ⟨rfl,hp⟩
      have HP2:=Lib.hid (FcPost.trans HB.out HC.out hp)
      clear hp HA HB HC
      obtain ⟨e2,he2⟩:∃ k,slE c1 n old=k:=⟨_,rfl⟩
      have HE2:=Lib.hid he2
      rw [he2]
      clear he2
      go_wp2_with fail
      go_ret
      exact ⟨by rw [HEND.out.1,HE2.out];rfl,by rw [HEND.out.2];exact HP2.out⟩
     ·have y1:(e1==0)=false:=by rw [beq_eq_false_iff_ne];exact h0
      by_cases h8:e1=8
      ·subst h8
       have HEND:Hid (setE c n old new=13∧setC c n old new=c1):=HS.out
       clear HS h0 y1
       go_wp2_with fail
       go_ret
       exact ⟨by rw [HEND.out.1];rfl,by rw [HEND.out.2];exact HP1.out⟩
      ·have y8:(e1==8)=false:=by rw [beq_eq_false_iff_ne];exact h8
       have HEND:Hid (setE c n old new=e1∧setC c n old new=c1):=by have h:=HS.out;rwa [if_neg h0,if_neg h0,if_neg h8] at h
       clear HS h0 h8
       go_wp2_with fail
       go_ret
       exact ⟨by rw [HEND.out.1];rfl,by rw [HEND.out.2];exact HP1.out⟩
set_option maxRecDepth 100000 in
set_option maxHeartbeats 3200000 in
theorem dels_any (F M : Nat → Prop) (b : Nat) (c : CSt) (i : Nat) (n old : List UInt8) (w : World) (h : FcAt F w b c M) (hg : GoS c i) (hi : i ≤ 390000) (hn : n.length ≤ 900000) (hol : old.length ≤ 900000) :
  Calls Tryz.prog 12 #[.pointer (some ⟨b,0,none⟩),.string (Tx.str n),.string (Tx.str old)] w fun e w'=>e=.returned (.int .i64 (delE c n old))∧FcPost F M w b (delC c n old) w':=by
 have H:=Lib.hid h
 have HG:=Lib.hid hg
 have HG1:=Lib.hid hg.bg
 have HG2:=Lib.hid (hg.bg.rem (refP n))
 have hb:¬ 9223372036854775807<(str old).size+1:=by rw [str_size];omega
 have hcat:=end_cat old
 have htl:(str (old++[10])).toList=old++[10]:=str_toList _
 obtain ⟨t,ht⟩:∃ t,nameB n=t:=⟨_,rfl⟩
 have HT:=Lib.hid ht
 obtain ⟨v,hv⟩:∃ t,validB old=t:=⟨_,rfl⟩
 have HV:=Lib.hid hv
 have HRF:Hid (FcPost F M w b c w):=FcPost.refl h
 obtain ⟨re,hre⟩:∃ k,redE c (refP n)=k:=⟨_,rfl⟩
 obtain ⟨d,hd⟩:∃ d,(redF c (refP n)).data=d:=⟨_,rfl⟩
 have HD:=Lib.hid hd
 have HRE:=Lib.hid hre
 have hdl:(str d).toList=d:=str_toList _
 obtain ⟨c1,hc1⟩:∃ x,(bgC c).c=x:=⟨_,rfl⟩
 have HC1:=Lib.hid hc1
 rw [hc1] at HG1 HG2
 have HLN:Hid ((refP n).length≤1000000):=by unfold Hid;rw [refP_len];omega
 clear h hg ht hv hre hd hc1
 go_enter Tryz.func12,Tryz.ntmps12
 go_wp2_with fail
 refine (cname_any n w (by omega)).mono ?_
 rintro e w1 ⟨rfl,rfl⟩
 rw [HT.out]
 cases t with
 | false =>
  have HE:Hid (delE c n old=6∧delC c n old=c):=⟨by unfold delE;rw [if_pos HT.out],by unfold delC;rw [if_pos HT.out]⟩
  go_wp2_with fail
  go_ret
  exact ⟨by rw [HE.out.1];rfl,by rw [HE.out.2];exact HRF.out⟩
 | true =>
  have n1:Hid (¬ (nameB n=false)):=by unfold Hid;rw [HT.out];decide
  go_wp2_with fail
  refine (valid_any old v HV.out w (by omega)).mono ?_
  rintro e w1 ⟨rfl,rfl⟩
  cases v with
  | false =>
   have HE:Hid (delE c n old=1∧delC c n old=c):=⟨by unfold delE;rw [if_neg n1.out,if_pos HV.out],by unfold delC;rw [if_neg n1.out,if_pos HV.out]⟩
   go_wp2_with fail
   go_ret
   exact ⟨by rw [HE.out.1];rfl,by rw [HE.out.2];exact HRF.out⟩
  | true =>
   have n2:Hid (¬ (validB old=false)):=by unfold Hid;rw [HV.out];decide
   go_wp2_with fail
   refine (rd_any F M b c _ n w H.out (HG.out.ready (by omega)) hn).mono ?_
   rintro e w2 ⟨rfl,hp⟩
   rw [HC1.out] at hp
   have HP1:=Lib.hid hp
   rw [HD.out,HRE.out]
   clear hp
   by_cases h0:re=0
   ·subst h0
    have n3:Hid (¬ (redE c (refP n)≠0)):=by unfold Hid;rw [HRE.out];decide
    by_cases hdo:d=old++[10]
    ·have n4:Hid (¬ ((redF c (refP n)).data≠old++[10])):=fun x=>x (HD.out.trans hdo)
     have e3:(d==old++[10])=true:=by rw [hdo];exact beq_self_eq_true _
     obtain ⟨e2,he2⟩:∃ k,remE c1 (refP n)=k:=⟨_,rfl⟩
     obtain ⟨c2,hc2⟩:∃ k,remC c1 (refP n)=k:=⟨_,rfl⟩
     have HE2:=Lib.hid he2
     have HC2:=Lib.hid hc2
     rw [hc2] at HG2
     obtain ⟨M1,g1,g2,g3⟩:=HP1.out
     have HA:=Lib.hid g1
     have HB:=Lib.hid g2
     have HC:=Lib.hid g3
     clear he2 hc2 g1 g2 g3 hdo
     go_wp2_with fail
     refine (place_any n w2 hn).mono ?_
     rintro e w4 ⟨rfl,rfl⟩
     go_wp2_with fail
     refine (removef_any _ M1 b c1 _ (refP n) w2 HA.out (HG1.out.ready (by omega)) HLN.out).mono ?_
     rintro e w4 ⟨rfl,hp⟩
     rw [HC2.out] at hp
     have HP2:=Lib.hid (FcPost.trans HB.out HC.out hp)
     rw [HE2.out]
     clear hp HA HB HC
     by_cases h2:e2=0
     ·subst h2
      obtain ⟨e3,he3⟩:∃ k,bgE c2=k:=⟨_,rfl⟩
      have HE3:=Lib.hid he3
      have HEND:Hid (delE c n old=e3∧delC c n old=synC c2):=⟨by unfold delE;rw [if_neg n1.out,if_neg n2.out,if_neg n3.out,if_neg n4.out,HC1.out,if_pos HE2.out,HC2.out,HE3.out],by unfold delC;rw [if_neg n1.out,if_neg n2.out,if_neg n3.out,if_neg n4.out,HC1.out,if_pos HE2.out,HC2.out]⟩
      obtain ⟨M1,g1,g2,g3⟩:=HP2.out
      have HA:=Lib.hid g1
      have HB:=Lib.hid g2
      have HC:=Lib.hid g3
      clear he3 g1 g2 g3
      go_wp2_with fail
      refine (syncf_any _ M1 b c2 _ w4 HA.out (HG2.out.ready (by omega))).mono ?_
      rintro e w5 ⟨rfl,hp⟩
      have HP3:=Lib.hid (FcPost.trans HB.out HC.out hp)
      rw [HE3.out]
      clear hp HA HB HC
      go_wp2_with fail
      go_ret
      exact ⟨by rw [HEND.out.1];rfl,by rw [HEND.out.2];exact HP3.out⟩
     ·have HEND:Hid (delE c n old=e2∧delC c n old=c2):=⟨by unfold delE;rw [if_neg n1.out,if_neg n2.out,if_neg n3.out,if_neg n4.out,HC1.out,HE2.out,if_neg h2],by unfold delC;rw [if_neg n1.out,if_neg n2.out,if_neg n3.out,if_neg n4.out,HC1.out,HE2.out,if_neg h2,HC2.out]⟩
      have y0:(e2 != 0)=true:=by simpa using h2
      have y1:(e2==0)=false:=by rw [beq_eq_false_iff_ne];exact h2
      clear h2
      go_wp2_with fail
      go_ret
      exact ⟨by rw [HEND.out.1];rfl,by rw [HEND.out.2];exact HP2.out⟩
    ·have HEND : Hid (delE c n old = 13 ∧ delC c n old = c1) := by
      have n4:(redF c (refP n)).data≠old++[10]:=by rw [HD.out];exact hdo
      exact ⟨by unfold delE;rw [if_neg n1.out,if_neg n2.out,if_neg n3.out,if_pos n4],by unfold delC;rw [if_neg n1.out,if_neg n2.out,if_neg n3.out,if_pos n4,HC1.out]⟩
     have e3:(d==old++[10])=false:=list_other hdo
     clear hdo
     go_wp2_with fail
     go_ret
     exact ⟨by rw [HEND.out.1];rfl,by rw [HEND.out.2];exact HP1.out⟩
   ·have HEND:Hid (delE c n old=re∧delC c n old=c1):=⟨by unfold delE;rw [if_neg n1.out,if_neg n2.out,HRE.out,if_pos h0],by unfold delC;rw [if_neg n1.out,if_neg n2.out,HRE.out,if_pos h0,HC1.out]⟩
    have y0:(re != 0)=true:=by simpa using h0
    have y1:(re==0)=false:=by rw [beq_eq_false_iff_ne];exact h0
    clear h0
    go_wp2_with fail
    go_ret
    exact ⟨by rw [HEND.out.1];rfl,by rw [HEND.out.2];exact HP1.out⟩
set_option maxRecDepth 100000 in
set_option maxHeartbeats 3200000 in
theorem namess_any (F M : Nat → Prop) (b : Nat) (c : CSt) (i : Nat) (dir : List UInt8) (w : World) (h : FcAt F w b c M) (hg : GoS c i) (hi : i ≤ 390000) (hdl : dir.length ≤ 1000) :
  Calls Tryz.prog 42 #[.pointer (some ⟨b,0,none⟩),.string (Tx.str dir)] w (LisPost F M w b (bgC c).c (lisE c dir) (rlsV c dir)):=by
 have H:=Lib.hid h
 have HG:=Lib.hid hg
 obtain ⟨re,hre⟩:∃ k,lisE c dir=k:=⟨_,rfl⟩
 have HRE:=Lib.hid hre
 clear h hg hre
 go_enter Tryz.func42,Tryz.ntmps42
 go_wp2_with fail
 refine (list_any F M b c _ dir w H.out (HG.out.ready (by omega)) (by omega)).mono ?_
 rintro e w2 ⟨v,w1,rfl,hp,hb,ho⟩
 rw [HRE.out]
 have HP:=Lib.hid hp
 have HB:=Lib.hid hb
 clear hp hb
 by_cases h0:re=0
 ·subst h0
  obtain ⟨L,hL⟩:∃ l,lisO c dir=l:=⟨_,rfl⟩
  have HE:Hid (rlsV c dir=nmsL dir L):=by unfold Hid rlsV;rw [HRE.out,if_pos rfl,hL]
  obtain ⟨hll,hlp⟩:=lis_short (HG.out.ready (by omega)) dir
  rw [hL] at hll hlp ho
  have HLP:=Lib.hid hlp
  obtain ⟨pA,pc,rfl,pl1,pl2⟩:=ho.length
  simp only [List.length_map] at pl1 ho ⊢
  obtain ⟨m,hm⟩:∃ m,L.length=m:=⟨_,rfl⟩
  rw [hm] at pl1 hll ho ⊢
  have HO1:=Lib.hid ho
  have HMM:=Lib.hid hm
  have z4:=str_size dir
  obtain ⟨ld,hld⟩:∃ ld,dir.length=ld:=⟨_,rfl⟩
  rw [hld] at z4 hdl
  have z5:=cat_sign dir
  clear hL hm hlp ho hld
  go_wp2_with fail
  go_loopw [8,23] (fun v i wr=>∃ k:Nat,k≤m∧i=.int .i64 k∧OwnV 9 wr w2.heap.size v (((nmsL dir (L.take k)).map str).map sv)∧RowKit.Below w2.heap.size w2 wr) (fun _ i _=>m - (intOf i).toNat)
  case atStart=>exact ⟨0,by omega,rfl,OwnV.nil_ _ _,Below.refl _ _⟩
  case round =>
   obtain ⟨k,hk,rfl,hof,hbe⟩:=hrel
   have k0:(0:Int)≤(k:Int):=by omega
   have HBE:=Lib.hid hbe
   have HO:=Lib.hid hof
   have hwz:=hbe.size
   by_cases hlt:k<m
   ·have k1:(k:Int)<(m:Int):=by omega
    have k2:(k:Int)≤(m:Int):=by omega
    have hkm:k<L.length:=by rw [HMM.out];exact hlt
    obtain ⟨q,hq⟩:∃ q,L[k]=q:=⟨_,rfl⟩
    have hqk:L[k]?=some q:=by rw [List.getElem?_eq_getElem hkm,hq]
    have hql:q.length≤1000:=HLP.out q (List.mem_of_getElem? hqk)
    have hov:=HO1.out.below hbe
    obtain ⟨A',c',he,_,_,hrd⟩:=hov.slv.len
    injection he with he1 he2 he3
    subst he1
    clear he2 he3
    simp only [List.length_map] at hrd
    have hkm':k<(L.map str).length:=by rw [List.length_map];exact hkm
    have hta:=texts_at (xs:=L.map str) (by simpa using hrd) k hkm'
    obtain ⟨ad,rfl,hcell⟩:=hta
    have hcell2:wr.cell? (ad.add k)=some (.string (str q)):=by rw [hcell];simp [hq]
    have HNX:=Lib.hid (nms_next (dir:=dir) hqk)
    have hsm:((nmsL dir (L.take k)).map str).length+1≤2000000:=by
     rw [List.length_map]
     have h1:=nms_len dir (L.take k)
     rw [List.length_take] at h1
     omega
    have hlq:(lastN dir q).length≤1000:=Nat.le_trans (last_le _ _) hql
    obtain ⟨z,hz⟩:∃ z,lastN dir q=z:=⟨_,rfl⟩
    rw [hz] at HNX hlq
    have HZ:=Lib.hid hz
    clear hov hrd hkm' hcell hq hqk hkm hof hbe hz
    obtain ⟨t,ht⟩:∃ t,nameB z=t:=⟨_,rfl⟩
    have HT:=Lib.hid ht
    clear ht
    go_wp2_with fail
    refine (trim_any dir q wr).mono ?_
    rintro e w3 ⟨rfl,rfl⟩
    rw [HZ.out]
    go_wp2_with fail
    refine (cname_any z wr (by omega)).mono ?_
    rintro e w3 ⟨rfl,rfl⟩
    rw [HT.out]
    cases t with
    | false =>
     have HN:Hid (nmsL dir (L.take (k+1))=nmsL dir (L.take k)):=by have h:=HNX.out;rw [if_neg (by rw [HT.out];decide),List.append_nil] at h;exact h
     go_wp2_with fail
     go_roundw
     case rel=>exact ⟨k+1,by omega,by go_num,by rw [HN.out];exact HO.out,HBE.out⟩
     case measure=>simp [intOf];omega
    | true =>
     have HN:Hid (nmsL dir (L.take (k+1))=nmsL dir (L.take k)++[z]):=by have h:=HNX.out;rw [if_pos HT.out] at h;exact h
     go_wp2_with (at_builtin;refine append_text rfl (.tmp 33) (.tmp 35) rfl wr w2.heap.size u8 ((nmsL dir (L.take k)).map str) rfl HO.out (str z) rfl hsm hwz ?_;intro v3 w3 ho3 hb3;have HO3:=Lib.hid ho3;have HB3:=Lib.hid hb3;clear ho3 hb3)
     go_roundw
     case rel =>
      refine ⟨k+1,by omega,by go_num,?_,HBE.out.trans (HB3.out.mono (Nat.le_refl _))⟩
      rw [HN.out]
      simpa using HO3.out
     case measure=>simp [intOf];omega
   ·obtain rfl:k=m:=by omega
    have hfin:OwnV 9 wr w2.heap.size u8 (((nmsL dir L).map str).map sv):=by
     have:=HO.out
     rw [List.take_of_length_le (Nat.le_of_eq HMM.out)] at this
     exact this
    have HFIN:=Lib.hid hfin
    clear hfin
    go_wp2_with fail
    go_ret2
    exact ⟨_,w1,by rw [HRE.out];rfl,HP.out,HB.out.trans (HBE.out.mono HB.out.size),by rw [HE.out];exact HFIN.out.base HB.out.size⟩
 ·have HE:Hid (rlsV c dir=[]):=by unfold Hid rlsV;rw [HRE.out,if_neg h0]
  have y0:(re != 0)=true:=by simpa using h0
  have y1:(re==0)=false:=by rw [beq_eq_false_iff_ne];exact h0
  clear h0 ho
  go_wp2_with fail
  go_ret2
  exact ⟨_,w1,by rw [HRE.out];rfl,HP.out,HB.out,by rw [HE.out];exact OwnV.nil_ _ _⟩
set_option maxRecDepth 100000 in
theorem rlists_any (F M : Nat → Prop) (b : Nat) (c : CSt) (i : Nat) (w : World) (h : FcAt F w b c M) (hg : GoS c i) (hi : i ≤ 390000) :
  Calls Tryz.prog 14 #[.pointer (some ⟨b,0,none⟩)] w (LisPost F M w b (bgC c).c (lisE c refD) (rlsV c refD)):=by
 have H:=Lib.hid h
 have HG:=Lib.hid hg
 clear h hg
 go_enter Tryz.func14,Tryz.ntmps14
 go_wp2_with fail
 refine (namess_any F M b c i refD w H.out HG.out hi (by decide)).mono ?_
 rintro e w2 ⟨v,w1,rfl,hp,hb,ho⟩
 have HP:=Lib.hid hp
 have HB:=Lib.hid hb
 have HO:=Lib.hid ho
 obtain ⟨re,hre⟩:∃ k,lisE c refD=k:=⟨_,rfl⟩
 have HRE:=Lib.hid hre
 rw [hre]
 clear hp hb ho hre
 go_wp2_with fail
 go_ret2
 exact ⟨v,w1,by rw [HRE.out];rfl,HP.out,HB.out,HO.out⟩
set_option maxRecDepth 100000 in
set_option maxHeartbeats 3200000 in
theorem unlocks_any (F M : Nat → Prop) (b : Nat) (c : CSt) (i : Nat) (w : World) (h : FcAt F w b c M) (hg : GoS c i) (hi : i + (rlsV c lockD).length ≤ 380000) (hlen : ∀ n ∈ rlsV c lockD, n.length ≤ 900000) :
  Calls Tryz.prog 17 #[.pointer (some ⟨b,0,none⟩)] w fun e w'=>e=.returned (.tuple #[.int .i64 (ulkN c),.int .i64 (ulkE c)])∧FcPost F M w b (ulkC c) w':=by
 have H:=Lib.hid h
 have HG:=Lib.hid hg
 have HG1:=Lib.hid hg.bg
 obtain ⟨re,hre⟩:∃ k,lisE c lockD=k:=⟨_,rfl⟩
 have HRE:=Lib.hid hre
 obtain ⟨L,hL⟩:∃ k,rlsV c lockD=k:=⟨_,rfl⟩
 have HL:=Lib.hid hL
 obtain ⟨c1,hc1⟩:∃ x,(bgC c).c=x:=⟨_,rfl⟩
 have HC1:=Lib.hid hc1
 rw [hc1] at HG1
 rw [hL] at hi hlen
 have HLEN:=Lib.hid hlen
 obtain ⟨m,hm⟩:∃ m,L.length=m:=⟨_,rfl⟩
 rw [hm] at hi
 have HMM:=Lib.hid hm
 clear h hg hre hL hc1 hlen hm
 go_enter Tryz.func17,Tryz.ntmps17
 go_wp2_with fail
 refine (namess_any F M b c i lockD w H.out HG.out (by omega) (by decide)).mono ?_
 rintro e w2 ⟨v,w1,rfl,hp,hb,ho⟩
 rw [HRE.out]
 rw [HC1.out] at hp
 rw [HL.out] at ho
 have HP:=Lib.hid (hp.then_below hb)
 by_cases h0:re=0
 ·subst h0
  obtain ⟨M1,g1,g2,g3⟩:=hp
  have HLT:=Lib.hid g1.lt
  have HST:=Lib.hid (UInv.start g1 g2 g3 hb)
  obtain ⟨pA,pc,rfl,pl1,pl2⟩:=ho.length
  simp only [List.length_map] at pl1 ho ⊢
  rw [HMM.out] at pl1 ho ⊢
  have HO:=Lib.hid ho
  have HE:Hid (ulkE c=unlE c1 L∧ulkC c=unlC c1 L):=⟨by unfold ulkE;rw [if_pos HRE.out,HC1.out,HL.out],by unfold ulkC;rw [if_pos HRE.out,HC1.out,HL.out]⟩
  clear ho g1 g2 g3 hb
  go_wp2_with fail
  go_loopw [19] (fun i' wr=>∃ (k:Nat) (ck:CSt),k≤m∧i'=.int .i64 k∧UInv F M M1 w w2 b ck wr∧GoS ck (i+1+k)∧unlE c1 L=unlE ck (L.drop k)∧unlC c1 L=unlC ck (L.drop k)) (fun i' _=>m - (intOf i').toNat)
  case atStart=>exact ⟨0,c1,by omega,rfl,HST.out,HG1.out,rfl,rfl⟩
  case round =>
   obtain ⟨k,ck,hk,rfl,hu,hgk,hek,hck⟩:=hrel
   have k0:(0:Int)≤(k:Int):=by omega
   have HU:=Lib.hid hu
   have HGK:=Lib.hid hgk
   have HEK:=Lib.hid hek
   have HCK:=Lib.hid hck
   clear hu hgk hek hck
   by_cases hlt:k<m
   ·have k1:(k:Int)<(m:Int):=by omega
    have k2:(k:Int)≤(m:Int):=by omega
    have hkm:k<L.length:=by rw [HMM.out];exact hlt
    obtain ⟨q,hq⟩:∃ q,L[k]=q:=⟨_,rfl⟩
    have hqk:L[k]?=some q:=by rw [List.getElem?_eq_getElem hkm,hq]
    have hql:q.length≤900000:=HLEN.out q (List.mem_of_getElem? hqk)
    have HDR:=Lib.hid (unl_drop (c:=ck) hqk)
    obtain ⟨Mk,a1,a2,a3,a4,a5⟩:=HU.out
    have hcell2:∃ g,pA=some ⟨g,0,none⟩∧wr.cell? ⟨g,k,none⟩=some (.string (str q)):=by
     rcases HO.out.blk with ⟨_,he⟩ | ⟨g,c',cur,he,hBg,hgl,hgb,_⟩
     ·have h1:=congrArg List.length he
      simp only [List.length_map,List.length_nil] at h1
      omega
     ·injection he with he1 _ _
      obtain ⟨A',c',he,_,_,hrd⟩:=HO.out.slv.len
      injection he with he2 _ _
      subst he2
      simp only [List.length_map] at hrd
      have hkm':k<(L.map str).length:=by rw [List.length_map];exact hkm
      obtain ⟨ad,e1,hc⟩:=texts_at (xs:=L.map str) (by simpa using hrd) k hkm'
      rw [he1] at e1
      injection e1 with e1
      subst e1
      refine ⟨g,he1,?_⟩
      rw [Addr.add_mid,Nat.zero_add] at hc
      rw [a4.cell hgl (fun hm=>by have:=HLT.out g hm;omega),hc]
      simp [hq]
    obtain ⟨g,rfl,hcell⟩:=hcell2
    obtain ⟨er,her⟩:∃ x,remE ck (lockP q)=x:=⟨_,rfl⟩
    have HER:=Lib.hid her
    obtain ⟨cn,hcn⟩:∃ x,remC ck (lockP q)=x:=⟨_,rfl⟩
    have HCN:=Lib.hid hcn
    have HGN:Hid (GoS cn (i+1+k+1)):=by rw [← hcn];exact HGK.out.rem _
    have HA1:=Lib.hid a1
    have HST':Hid (∀ w',FcPost (grow F w wr Mk) Mk wr b cn w'→UInv F M M1 w w2 b cn w'):=fun w' h=>UInv.step a2 a3 a4 a5 h
    have HLQ:Hid ((lockP q).length≤1000000):=by unfold Hid;rw [lockP_len];omega
    clear a1 a2 a3 a4 a5 hq hqk hkm her hcn
    go_wp2_with fail
    refine (lock_any q wr hql).mono ?_
    rintro e w4 ⟨rfl,rfl⟩
    go_wp2_with fail
    refine (removef_any _ Mk b ck _ (lockP q) wr HA1.out (HGK.out.ready (by omega)) HLQ.out).mono ?_
    rintro e w4 ⟨rfl,hp4⟩
    rw [HCN.out] at hp4
    rw [HER.out]
    have HU4:=Lib.hid (HST'.out _ hp4)
    clear hp4
    by_cases hr0:er=0
    ·subst hr0
     have HN:Hid (unlE c1 L=unlE cn (L.drop (k+1))∧unlC c1 L=unlC cn (L.drop (k+1))):=by
      have h1:=HDR.out
      rw [if_pos HER.out,if_pos HER.out,HCN.out] at h1
      exact ⟨HEK.out.trans h1.1,HCK.out.trans h1.2⟩
     go_wp2_with fail
     go_roundw
     case rel=>exact ⟨k+1,cn,by omega,by go_num,HU4.out,HGN.out,HN.out.1,HN.out.2⟩
     case measure=>simp [intOf];omega
    ·have HN : Hid (ulkE c = er ∧ ulkC c = cn ∧ ulkN c = 0) := by
      have h1:=HDR.out
      rw [HER.out,if_neg hr0,if_neg hr0,HCN.out] at h1
      have h2:ulkE c=er:=HE.out.1.trans (HEK.out.trans h1.1)
      exact ⟨h2,HE.out.2.trans (HCK.out.trans h1.2),by unfold ulkN;rw [h2,if_neg hr0]⟩
     have y0:(er != 0)=true:=by simpa using hr0
     have y1:(er==0)=false:=by rw [beq_eq_false_iff_ne];exact hr0
     clear hr0
     go_wp2_with fail
     go_ret2
     exact ⟨by rw [HN.out.1,HN.out.2.2];rfl,by rw [HN.out.2.1];exact HU4.out.post⟩
   ·obtain rfl:k=m:=by omega
    have HN:Hid (ulkE c=0∧ulkC c=ck∧ulkN c=(k:Int)):=by
     have h1:L.drop k=[]:=by rw [List.drop_of_length_le (Nat.le_of_eq HMM.out)]
     have h2:ulkE c=0:=by rw [HE.out.1,HEK.out,h1];rfl
     exact ⟨h2,by rw [HE.out.2,HCK.out,h1];rfl,by unfold ulkN;rw [h2,if_pos rfl,HL.out,HMM.out]⟩
    go_wp2_with fail
    go_ret2
    exact ⟨by rw [HN.out.1,HN.out.2.2];rfl,by rw [HN.out.2.1];exact HU.out.post⟩
 ·have HE : Hid (ulkE c = re ∧ ulkC c = c1 ∧ ulkN c = 0) := by
   have h1:ulkE c=re:=by unfold ulkE;rw [HRE.out,if_neg h0]
   exact ⟨h1,by unfold ulkC;rw [HRE.out,if_neg h0,HC1.out],by unfold ulkN;rw [h1,if_neg h0]⟩
  have y0:(re != 0)=true:=by simpa using h0
  have y1:(re==0)=false:=by rw [beq_eq_false_iff_ne];exact h0
  clear h0 ho hp hb
  go_wp2_with fail
  go_ret2
  exact ⟨by rw [HE.out.1,HE.out.2.2];rfl,by rw [HE.out.2.1];exact HP.out⟩
end Go.Proofs.YtlkolcokjmlmjaaGreat.Tx
