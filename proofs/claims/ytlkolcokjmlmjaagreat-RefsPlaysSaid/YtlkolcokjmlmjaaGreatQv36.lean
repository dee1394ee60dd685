/- Texts put together: VRg3, VTs0, VTs2, VTs3, VTs4, VTs5, VTs6, VTs1, VTs7, VTs8. -/
import Derived.Test.YtlkolcokjmlmjaaGreatQv35
import Derived.Test.YtlkolcokjmlmjaaGreatQv33
import Derived.Test.YtlkolcokjmlmjaaGreatQv03
import Derived.Test.YtlkolcokjmlmjaaGreatQv12
import Derived.Laws.BytesString
import Derived.Test.YtlkolcokjmlmjaaGreatQv01
import Derived.WalkLawsBesides
import Derived.IntWalk
import Derived.Deep.DeepCutAuto
import Derived.Laws.CopyOwn
set_option linter.unusedVariables false
set_option linter.unusedSimpArgs false
namespace Go.Proofs.YtlkolcokjmlmjaaGreat.Tx
open Go.RowKit Go.Maps Go.Proofs.YtlkolcokjmlmjaaGreat.Sh
theorem sl_parts (c : CSt) (n old : List UInt8) :
  (expE c n old≠0→slE c n old=expE c n old∧slC c n old=remC (bgC c).c (lockP n)) ∧
  (expE c n old=0→bgE (bgC c).c≠0→slE c n old=bgE (bgC c).c∧slC c n old=remC (synC (bgC c).c) (lockP n)) ∧
  (expE c n old=0→bgE (bgC c).c=0→movE (synC (bgC c).c) (lockP n) (refP n) false≠0→slE c n old=movE (synC (bgC c).c) (lockP n) (refP n) false∧slC c n old=movC (synC (bgC c).c) (lockP n) (refP n) false) ∧
  (expE c n old=0→bgE (bgC c).c=0→movE (synC (bgC c).c) (lockP n) (refP n) false=0→slE c n old=bgE (movC (synC (bgC c).c) (lockP n) (refP n) false)∧slC c n old=synC (movC (synC (bgC c).c) (lockP n) (refP n) false)):=by
 refine ⟨fun h=>?_,fun h hb=>?_,fun h hb hm=>?_,fun h hb hm=>?_⟩
 ·have hp:prepE c n old=expE c n old:=by unfold prepE;rw [if_neg h]
  have hq:prepC c n old=(bgC c).c:=by unfold prepC;rw [if_neg h]
  exact ⟨by unfold slE;rw [if_neg (by rw [hp];exact h),hp],by unfold slC;rw [if_neg (by rw [hp];exact h),hq]⟩
 ·have hp:prepE c n old=bgE (bgC c).c:=by unfold prepE;rw [if_pos h]
  have hq:prepC c n old=synC (bgC c).c:=by unfold prepC;rw [if_pos h]
  exact ⟨by unfold slE;rw [if_neg (by rw [hp];exact hb),hp],by unfold slC;rw [if_neg (by rw [hp];exact hb),hq]⟩
 ·have hp:prepE c n old=0:=by unfold prepE;rw [if_pos h];exact hb
  have hq:prepC c n old=synC (bgC c).c:=by unfold prepC;rw [if_pos h]
  exact ⟨by unfold slE;rw [if_pos hp,hq,if_neg hm],by unfold slC;rw [if_pos hp,hq,if_neg hm]⟩
 ·have hp:prepE c n old=0:=by unfold prepE;rw [if_pos h];exact hb
  have hq:prepC c n old=synC (bgC c).c:=by unfold prepC;rw [if_pos h]
  exact ⟨by unfold slE;rw [if_pos hp,hq,if_pos hm],by unfold slC;rw [if_pos hp,hq,if_pos hm]⟩
set_option maxRecDepth 100000 in
set_option maxHeartbeats 6400000 in
theorem rset_any {F M : Nat → Prop} {w : World} {d i : Nat} {c : CSt} (n old new : List UInt8) (h : RAt F w d c i M) (hi : i ≤ 380000) (hn : n.length ≤ 800000) (hol : old.length ≤ 800000) (hnl : new.length ≤ 800000) :
  Calls Tryz.prog 11 #[.pointer (some ⟨d,0,none⟩),.string (Tx.str n),.string (Tx.str old),.string (Tx.str new)] w fun e w'=>e=.returned (.int .i64 (setE c n old new))∧RPost F M w d (setC c n old new) (i+5) w':=by
 have H:=Lib.hid h
 have hb:¬ 9223372036854775807<(str new).size+1:=by rw [str_size];omega
 have hb2:¬ 9223372036854775807<4+(str n).size:=by rw [str_size];omega
 have hcat:=end_cat new
 obtain ⟨t,ht⟩:∃ t,nameB n=t:=⟨_,rfl⟩
 have HT:=Lib.hid ht
 obtain ⟨v,hv⟩:∃ t,validB new=t:=⟨_,rfl⟩
 have HV:=Lib.hid hv
 have HLN:Hid ((lockP n).length≤900000∧(refP n).length≤900000):=by unfold Hid;rw [lockP_len,refP_len];omega
 have HZ:Hid (∀ k,M k→k<w.heap.size):=h.lt
 clear h ht hv
 go_enter Tryz.func11,Tryz.ntmps11
 go_wp2_with fail
 refine (rname_any n w (by omega)).mono ?_
 rintro e w1 ⟨rfl,rfl⟩
 rw [HT.out]
 cases t with
 | false =>
  have HE:=Lib.hid (set_noname (c:=c) HT.out old new)
  go_wp2_with fail
  go_ret
  exact ⟨by rw [HE.out.1];rfl,by rw [HE.out.2];exact (RPost.refl H.out).upto (by omega)⟩
 | true =>
  go_wp2_with fail
  refine (Sh.rvalid_any new v HV.out w (by omega)).mono ?_
  rintro e w0 ⟨rfl,hb0⟩
  have HB0:=Lib.hid hb0
  clear hb0
  cases v with
  | false =>
   have HE:=Lib.hid (set_range (c:=c) (old:=old) HT.out (.inl HV.out))
   go_wp2_with fail
   go_ret
   exact ⟨by rw [HE.out.1];rfl,by rw [HE.out.2];exact ((RPost.refl H.out).then_below HB0.out).upto (by omega)⟩
  | true =>
   have KEY:=Lib.hid (fun (hgood:old=[]∨validB old=true)=>set_good (c:=c) HT.out HV.out hgood)
   by_cases ho:old=[]
   ·have HS:=Lib.hid (KEY.out (.inl ho))
    obtain ⟨z2,z3⟩:=str_nil ho
    clear ho KEY
    have HBW:=HB0
    obtain ⟨wv,hwv⟩:∃ W:World,W=w0:=⟨_,rfl⟩
    rw [← hwv] at HBW ⊢
    clear HB0 hwv
    obtain ⟨wn,cap,hconv,hbn,hzn,hby⟩:=bytes_new wv (new++[10]) (by simp;omega)
    have h65:(new++[10]).length=65:=by simp [valid_len HV.out]
    rw [h65] at hconv hby
    clear h65
    have HBN:=Lib.hid (HBW.out.trans (hbn.mono HBW.out.size))
    have HBY:=Lib.hid hby
    have HZV:Hid (w.heap.size≤wv.heap.size):=HBW.out.size
    obtain ⟨e1,he1⟩:∃ k,crtE c (lockP n) 1 (new++[10]) true=k:=⟨_,rfl⟩
    obtain ⟨c1,hc1⟩:∃ k,crtC c (lockP n) 1 (new++[10]) true=k:=⟨_,rfl⟩
    have HE1:=Lib.hid he1
    have HC1:=Lib.hid hc1
    rw [he1,hc1] at HS
    clear hbn hzn hby he1 hc1
    go_wp2_with fail
    rw [rlock_cat]
    refine (rcrt_any (lockP n) 1 (.slice (some ⟨wv.heap.size,0,none⟩) 65 cap) (new++[10]) (fun k=>k=wv.heap.size) (H.out.below HBN.out) (by omega) HLN.out.1 HBY.out (fun k hk hm=>by have:=HZ.out k hm;have:=HZV.out;omega)).mono ?_
    rintro e w2 ⟨rfl,hp⟩
    rw [HC1.out] at hp
    have HP1:=Lib.hid (RPost.of_below HBN.out hp)
    rw [HE1.out]
    clear hp hconv HBY
    by_cases h0:e1=0
    ·subst h0
     have HEND:Hid (setE c n old new=slE c1 n old∧setC c n old new=slC c1 n old):=HS.out
     clear HS
     obtain ⟨e2,he2⟩:∃ k,expE c1 n old=k:=⟨_,rfl⟩
     obtain ⟨c2,hc2⟩:∃ k,(bgC c1).c=k:=⟨_,rfl⟩
     have HSP:=Lib.hid (sl_parts c1 n old)
     have HE2:=Lib.hid he2
     have HC2:=Lib.hid hc2
     clear he2 hc2
     obtain ⟨M1,g1,g2,g3⟩:=HP1.out.open_
     have HA:=Lib.hid g1
     have HG2:=Lib.hid g2
     have HG3:=Lib.hid g3
     clear g1 g2 g3
     go_wp2_with fail
     refine (rexp_any n old HA.out (by omega) hn hol).mono ?_
     rintro e w3 ⟨rfl,hp⟩
     rw [HC2.out] at hp
     have HP2:=Lib.hid (RPost.trans HG2.out HG3.out hp)
     rw [HE2.out]
     clear hp HA HG2 HG3
     by_cases h2:e2=0
     ·subst h2
      obtain ⟨e3,he3⟩:∃ k,bgE c2=k:=⟨_,rfl⟩
      have HE3:=Lib.hid he3
      obtain ⟨c3,hc3⟩:∃ k,synC c2=k:=⟨_,rfl⟩
      have HC3:=Lib.hid hc3
      clear he3 hc3
      go_wp2_with fail
      refine (rsyn_any HP2.out (by omega)).mono ?_
      rintro e w4 ⟨rfl,hp⟩
      rw [HC3.out] at hp
      have HP3:=Lib.hid hp
      rw [HE3.out]
      clear hp
      by_cases h3:e3=0
      ·subst h3
       obtain ⟨e4,he4⟩:∃ k,movE c3 (lockP n) (refP n) false=k:=⟨_,rfl⟩
       have HE4:=Lib.hid he4
       obtain ⟨c4,hc4⟩:∃ k,movC c3 (lockP n) (refP n) false=k:=⟨_,rfl⟩
       have HC4:=Lib.hid hc4
       clear he4 hc4
       go_wp2_with fail
       rw [rplace_cat]
       refine (rmov_any (lockP n) (refP n) HP3.out (by omega) HLN.out.1 HLN.out.2).mono ?_
       rintro e w5 ⟨rfl,hp⟩
       rw [HC4.out] at hp
       have HP4:=Lib.hid hp
       rw [HE4.out]
       clear hp
       by_cases h4:e4=0
       ·subst h4
        have HX:Hid (slE c1 n old=bgE c4∧slC c1 n old=synC c4):=by
         have h:=HSP.out.2.2.2 HE2.out (by rw [HC2.out];exact HE3.out) (by rw [HC2.out,HC3.out];exact HE4.out)
         rw [HC2.out,HC3.out,HC4.out] at h
         exact h
        obtain ⟨e5,he5⟩:∃ k,bgE c4=k:=⟨_,rfl⟩
        have HE5:=Lib.hid he5
        clear he5
        go_wp2_with fail
        refine (rsyn_any HP4.out (by omega)).mono ?_
        rintro e w6 ⟨rfl,hp⟩
        have HP5:=Lib.hid hp
        rw [HE5.out]
        clear hp
        go_wp2_with fail
        go_ret
        exact ⟨by rw [HEND.out.1,HX.out.1,HE5.out];rfl,by rw [HEND.out.2,HX.out.2];exact HP5.out.upto (by omega)⟩
       ·have HX : Hid (slE c1 n old = e4 ∧ slC c1 n old = c4) := by
         have h:=HSP.out.2.2.1 HE2.out (by rw [HC2.out];exact HE3.out) (by rw [HC2.out,HC3.out,HE4.out];exact h4)
         rw [HC2.out,HC3.out,HC4.out,HE4.out] at h
         exact h
        have y0:(e4 != 0)=true:=by simpa using h4
        have y1:(e4==0)=false:=by rw [beq_eq_false_iff_ne];exact h4
        clear h4
        go_wp2_with fail
        go_ret
        exact ⟨by rw [HEND.out.1,HX.out.1];rfl,by rw [HEND.out.2,HX.out.2];exact HP4.out.upto (by omega)⟩
      ·have HX : Hid (slE c1 n old = e3 ∧ slC c1 n old = remC c3 (lockP n)) := by
        have h:=HSP.out.2.1 HE2.out (by rw [HC2.out,HE3.out];exact h3)
        rw [HC2.out,HC3.out,HE3.out] at h
        exact h
       have y0:(e3 != 0)=true:=by simpa using h3
       have y1:(e3==0)=false:=by rw [beq_eq_false_iff_ne];exact h3
       clear h3
       go_wp2_with fail
       refine (rrem_any (lockP n) HP3.out (by omega) HLN.out.1).mono ?_
       rintro e w5 ⟨rfl,hp⟩
       have HP4:=Lib.hid hp
       clear hp
       go_wp2_with fail
       go_ret
       exact ⟨by rw [HEND.out.1,HX.out.1];rfl,by rw [HEND.out.2,HX.out.2];exact HP4.out.upto (by omega)⟩
     ·have HX : Hid (slE c1 n old = e2 ∧ slC c1 n old = remC c2 (lockP n)) := by
       have h:=HSP.out.1 (by rw [HE2.out];exact h2)
       rw [HE2.out,HC2.out] at h
       exact h
      have y0:(e2 != 0)=true:=by simpa using h2
      have y1:(e2==0)=false:=by rw [beq_eq_false_iff_ne];exact h2
      clear h2
      go_wp2_with fail
      refine (rrem_any (lockP n) HP2.out (by omega) HLN.out.1).mono ?_
      rintro e w5 ⟨rfl,hp⟩
      have HP4:=Lib.hid hp
      clear hp
      go_wp2_with fail
      go_ret
      exact ⟨by rw [HEND.out.1,HX.out.1];rfl,by rw [HEND.out.2,HX.out.2];exact HP4.out.upto (by omega)⟩
    ·have y1:(e1==0)=false:=by rw [beq_eq_false_iff_ne];exact h0
     have y0:(e1 != 0)=true:=by simpa using h0
     by_cases h8:e1=8
     ·subst h8
      have HEND:Hid (setE c n old new=13∧setC c n old new=c1):=HS.out
      clear HS h0 y1 y0
      go_wp2_with fail
      go_ret
      exact ⟨by rw [HEND.out.1];rfl,by rw [HEND.out.2];exact HP1.out.upto (by omega)⟩
     ·have y8:(e1==8)=false:=by rw [beq_eq_false_iff_ne];exact h8
      have HEND:Hid (setE c n old new=e1∧setC c n old new=c1):=by have h:=HS.out;rwa [if_neg h0,if_neg h0,if_neg h8] at h
      clear HS h0 h8
      go_wp2_with fail
      go_ret
      exact ⟨by rw [HEND.out.1];rfl,by rw [HEND.out.2];exact HP1.out.upto (by omega)⟩
   ·obtain ⟨z2,z3⟩:=str_some ho
    obtain ⟨q,hq⟩:∃ t,validB old=t:=⟨_,rfl⟩
    have HQ:=Lib.hid hq
    have HO:=Lib.hid ho
    clear ho hq
    go_wp2_with fail
    refine (Sh.rvalid_any old q HQ.out w0 (by omega)).mono ?_
    rintro e wv ⟨rfl,hbv⟩
    have HBW:=Lib.hid (HB0.out.trans (hbv.mono HB0.out.size))
    clear hbv HB0
    cases q with
    | false =>
     have HE:=Lib.hid (set_range (c:=c) (old:=old) (new:=new) HT.out (.inr ⟨HO.out,HQ.out⟩))
     go_wp2_with fail
     go_ret
     exact ⟨by rw [HE.out.1];rfl,by rw [HE.out.2];exact ((RPost.refl H.out).then_below HBW.out).upto (by omega)⟩
    | true =>
     have HS:=Lib.hid (KEY.out (.inr HQ.out))
     clear KEY
     obtain ⟨wn,cap,hconv,hbn,hzn,hby⟩:=bytes_new wv (new++[10]) (by simp;omega)
     have h65:(new++[10]).length=65:=by simp [valid_len HV.out]
     rw [h65] at hconv hby
     clear h65
     have HBN:=Lib.hid (HBW.out.trans (hbn.mono HBW.out.size))
     have HBY:=Lib.hid hby
     have HZV:Hid (w.heap.size≤wv.heap.size):=HBW.out.size
     obtain ⟨e1,he1⟩:∃ k,crtE c (lockP n) 1 (new++[10]) true=k:=⟨_,rfl⟩
     obtain ⟨c1,hc1⟩:∃ k,crtC c (lockP n) 1 (new++[10]) true=k:=⟨_,rfl⟩
     have HE1:=Lib.hid he1
     have HC1:=Lib.hid hc1
     rw [he1,hc1] at HS
     clear hbn hzn hby he1 hc1
     go_wp2_with fail
     rw [rlock_cat]
     refine (rcrt_any (lockP n) 1 (.slice (some ⟨wv.heap.size,0,none⟩) 65 cap) (new++[10]) (fun k=>k=wv.heap.size) (H.out.below HBN.out) (by omega) HLN.out.1 HBY.out (fun k hk hm=>by have:=HZ.out k hm;have:=HZV.out;omega)).mono ?_
     rintro e w2 ⟨rfl,hp⟩
     rw [HC1.out] at hp
     have HP1:=Lib.hid (RPost.of_below HBN.out hp)
     rw [HE1.out]
     clear hp hconv HBY
     by_cases h0:e1=0
     ·subst h0
      have HEND:Hid (setE c n old new=slE c1 n old∧setC c n old new=slC c1 n old):=HS.out
      clear HS
      obtain ⟨e2,he2⟩:∃ k,expE c1 n old=k:=⟨_,rfl⟩
      obtain ⟨c2,hc2⟩:∃ k,(bgC c1).c=k:=⟨_,rfl⟩
      have HSP:=Lib.hid (sl_parts c1 n old)
      have HE2:=Lib.hid he2
      have HC2:=Lib.hid hc2
      clear he2 hc2
      obtain ⟨M1,g1,g2,g3⟩:=HP1.out.open_
      have HA:=Lib.hid g1
      have HG2:=Lib.hid g2
      have HG3:=Lib.hid g3
      clear g1 g2 g3
      go_wp2_with fail
      refine (rexp_any n old HA.out (by omega) hn hol).mono ?_
      rintro e w3 ⟨rfl,hp⟩
      rw [HC2.out] at hp
      have HP2:=Lib.hid (RPost.trans HG2.out HG3.out hp)
      rw [HE2.out]
      clear hp HA HG2 HG3
      by_cases h2:e2=0
      ·subst h2
       obtain ⟨e3,he3⟩:∃ k,bgE c2=k:=⟨_,rfl⟩
       have HE3:=Lib.hid he3
       obtain ⟨c3,hc3⟩:∃ k,synC c2=k:=⟨_,rfl⟩
       have HC3:=Lib.hid hc3
       clear he3 hc3
       go_wp2_with fail
       refine (rsyn_any HP2.out (by omega)).mono ?_
       rintro e w4 ⟨rfl,hp⟩
       rw [HC3.out] at hp
       have HP3:=Lib.hid hp
       rw [HE3.out]
       clear hp
       by_cases h3:e3=0
       ·subst h3
        obtain ⟨e4,he4⟩:∃ k,movE c3 (lockP n) (refP n) false=k:=⟨_,rfl⟩
        have HE4:=Lib.hid he4
        obtain ⟨c4,hc4⟩:∃ k,movC c3 (lockP n) (refP n) false=k:=⟨_,rfl⟩
        have HC4:=Lib.hid hc4
        clear he4 hc4
        go_wp2_with fail
        rw [rplace_cat]
        refine (rmov_any (lockP n) (refP n) HP3.out (by omega) HLN.out.1 HLN.out.2).mono ?_
        rintro e w5 ⟨rfl,hp⟩
        rw [HC4.out] at hp
        have HP4:=Lib.hid hp
        rw [HE4.out]
        clear hp
        by_cases h4:e4=0
        ·subst h4
         have HX:Hid (slE c1 n old=bgE c4∧slC c1 n old=synC c4):=by
          have h:=HSP.out.2.2.2 HE2.out (by rw [HC2.out];exact HE3.out) (by rw [HC2.out,HC3.out];exact HE4.out)
          rw [HC2.out,HC3.out,HC4.out] at h
          exact h
         obtain ⟨e5,he5⟩:∃ k,bgE c4=k:=⟨_,rfl⟩
         have HE5:=Lib.hid he5
         clear he5
         go_wp2_with fail
         refine (rsyn_any HP4.out (by omega)).mono ?_
         rintro e w6 ⟨rfl,hp⟩
         have HP5:=Lib.hid hp
         rw [HE5.out]
         clear hp
         go_wp2_with fail
         go_ret
         exact ⟨by rw [HEND.out.1,HX.out.1,HE5.out];rfl,by rw [HEND.out.2,HX.out.2];exact HP5.out.upto (by omega)⟩
        ·have HX : Hid (slE c1 n old = e4 ∧ slC c1 n old = c4) := by
          have h:=HSP.out.2.2.1 HE2.out (by rw [HC2.out];exact HE3.out) (by rw [HC2.out,HC3.out,HE4.out];exact h4)
          rw [HC2.out,HC3.out,HC4.out,HE4.out] at h
          exact h
         have y0:(e4 != 0)=true:=by simpa using h4
         have y1:(e4==0)=false:=by rw [beq_eq_false_iff_ne];exact h4
         clear h4
         go_wp2_with fail
         go_ret
         exact ⟨by rw [HEND.out.1,HX.out.1];rfl,by rw [HEND.out.2,HX.out.2];exact HP4.out.upto (by omega)⟩
       ·have HX : Hid (slE c1 n old = e3 ∧ slC c1 n old = remC c3 (lockP n)) := by
         have h:=HSP.out.2.1 HE2.out (by rw [HC2.out,HE3.out];exact h3)
         rw [HC2.out,HC3.out,HE3.out] at h
         exact h
        have y0:(e3 != 0)=true:=by simpa using h3
        have y1:(e3==0)=false:=by rw [beq_eq_false_iff_ne];exact h3
        clear h3
        go_wp2_with fail
        refine (rrem_any (lockP n) HP3.out (by omega) HLN.out.1).mono ?_
        rintro e w5 ⟨rfl,hp⟩
        have HP4:=Lib.hid hp
        clear hp
        go_wp2_with fail
        go_ret
        exact ⟨by rw [HEND.out.1,HX.out.1];rfl,by rw [HEND.out.2,HX.out.2];exact HP4.out.upto (by omega)⟩
      ·have HX : Hid (slE c1 n old = e2 ∧ slC c1 n old = remC c2 (lockP n)) := by
        have h:=HSP.out.1 (by rw [HE2.out];exact h2)
        rw [HE2.out,HC2.out] at h
        exact h
       have y0:(e2 != 0)=true:=by simpa using h2
       have y1:(e2==0)=false:=by rw [beq_eq_false_iff_ne];exact h2
       clear h2
       go_wp2_with fail
       refine (rrem_any (lockP n) HP2.out (by omega) HLN.out.1).mono ?_
       rintro e w5 ⟨rfl,hp⟩
       have HP4:=Lib.hid hp
       clear hp
       go_wp2_with fail
       go_ret
       exact ⟨by rw [HEND.out.1,HX.out.1];rfl,by rw [HEND.out.2,HX.out.2];exact HP4.out.upto (by omega)⟩
     ·have y1:(e1==0)=false:=by rw [beq_eq_false_iff_ne];exact h0
      have y0:(e1 != 0)=true:=by simpa using h0
      by_cases h8:e1=8
      ·subst h8
       have HEND:Hid (setE c n old new=13∧setC c n old new=c1):=HS.out
       clear HS h0 y1 y0
       go_wp2_with fail
       go_ret
       exact ⟨by rw [HEND.out.1];rfl,by rw [HEND.out.2];exact HP1.out.upto (by omega)⟩
      ·have y8:(e1==8)=false:=by rw [beq_eq_false_iff_ne];exact h8
       have HEND:Hid (setE c n old new=e1∧setC c n old new=c1):=by have h:=HS.out;rwa [if_neg h0,if_neg h0,if_neg h8] at h
       clear HS h0 h8
       go_wp2_with fail
       go_ret
       exact ⟨by rw [HEND.out.1];rfl,by rw [HEND.out.2];exact HP1.out.upto (by omega)⟩
set_option maxRecDepth 100000 in
set_option maxHeartbeats 3200000 in
theorem rdel_any {F M : Nat → Prop} {w : World} {d i : Nat} {c : CSt} (n old : List UInt8) (h : RAt F w d c i M) (hi : i ≤ 380000) (hn : n.length ≤ 800000) (hol : old.length ≤ 800000) :
  Calls Tryz.prog 13 #[.pointer (some ⟨d,0,none⟩),.string (Tx.str n),.string (Tx.str old)] w fun e w'=>e=.returned (.int .i64 (delE c n old))∧RPost F M w d (delC c n old) (i+3) w':=by
 have H:=Lib.hid h
 have hb:¬ 9223372036854775807<(str old).size+1:=by rw [str_size];omega
 have hb2:¬ 9223372036854775807<4+(str n).size:=by rw [str_size];omega
 have hcat:=end_cat old
 obtain ⟨t,ht⟩:∃ t,nameB n=t:=⟨_,rfl⟩
 have HT:=Lib.hid ht
 obtain ⟨v,hv⟩:∃ t,validB old=t:=⟨_,rfl⟩
 have HV:=Lib.hid hv
 have HLN:Hid ((refP n).length≤900000):=by unfold Hid;rw [refP_len];omega
 clear h ht hv
 go_enter Tryz.func13,Tryz.ntmps13
 go_wp2_with fail
 refine (rname_any n w (by omega)).mono ?_
 rintro e w1 ⟨rfl,rfl⟩
 rw [HT.out]
 cases t with
 | false =>
  have HE:Hid (delE c n old=6∧delC c n old=c):=⟨by unfold delE;rw [if_pos HT.out],by unfold delC;rw [if_pos HT.out]⟩
  go_wp2_with fail
  go_ret
  exact ⟨by rw [HE.out.1];rfl,by rw [HE.out.2];exact (RPost.refl H.out).upto (by omega)⟩
 | true =>
  have n1:Hid (¬ (nameB n=false)):=by unfold Hid;rw [HT.out];decide
  go_wp2_with fail
  refine (Sh.rvalid_any old v HV.out w (by omega)).mono ?_
  rintro e w0 ⟨rfl,hb0⟩
  have HB0:=Lib.hid hb0
  clear hb0
  cases v with
  | false =>
   have HE:Hid (delE c n old=1∧delC c n old=c):=⟨by unfold delE;rw [if_neg n1.out,if_pos HV.out],by unfold delC;rw [if_neg n1.out,if_pos HV.out]⟩
   go_wp2_with fail
   go_ret
   exact ⟨by rw [HE.out.1];rfl,by rw [HE.out.2];exact ((RPost.refl H.out).then_below HB0.out).upto (by omega)⟩
  | true =>
   have n2:Hid (¬ (validB old=false)):=by unfold Hid;rw [HV.out];decide
   have HDE:Hid (delE c n old=(if redE c (refP n)≠0 then redE c (refP n) else if (redF c (refP n)).data≠old++[10] then 13 else if remE (bgC c).c (refP n)=0 then bgE (remC (bgC c).c (refP n)) else remE (bgC c).c (refP n))):=by unfold Hid delE;rw [if_neg n1.out,if_neg n2.out]
   have HDC:Hid (delC c n old=(if redE c (refP n)≠0 then (bgC c).c else if (redF c (refP n)).data≠old++[10] then (bgC c).c else if remE (bgC c).c (refP n)=0 then synC (remC (bgC c).c (refP n)) else remC (bgC c).c (refP n))):=by unfold Hid delC;rw [if_neg n1.out,if_neg n2.out]
   obtain ⟨c1,hc1⟩:∃ x,(bgC c).c=x:=⟨_,rfl⟩
   have HC1:=Lib.hid hc1
   rw [hc1] at HDE HDC
   clear hc1
   go_wp2_with fail
   rw [rplace_cat]
   refine (rred_any (refP n) (H.out.below HB0.out) (by omega) (by rw [refP_len];omega)).mono ?_
   rintro e w2 ⟨dA,dc,G,rfl,hp,hby,hdc⟩
   rw [HC1.out] at hp
   obtain ⟨⟨md,dt,tm⟩,hF⟩:∃ f,redF c (refP n)=f:=⟨_,rfl⟩
   have HF:=Lib.hid hF
   rw [hF] at hby hdc HDE HDC ⊢
   dsimp only at hby hdc HDE HDC ⊢
   obtain ⟨dl,hdl⟩:∃ m,dt.length=m:=⟨_,rfl⟩
   have HDL:=Lib.hid hdl
   rw [hdl] at hby hdc ⊢
   obtain ⟨re,hre⟩:∃ k,redE c (refP n)=k:=⟨_,rfl⟩
   have HRE:=Lib.hid hre
   rw [hre] at HDE HDC ⊢
   have HP:=Lib.hid (RPost.of_below HB0.out hp)
   have HBY:=Lib.hid hby
   clear hp hF hdl hre hby hdc
   go_upto_region 6 with (fail)
   obtain ⟨w3,hw3⟩:∃ W,W=w2.alloc (.cells #[.int .i64 md,.slice dA dl dc,.int .i64 tm] 78):=⟨_,rfl⟩
   obtain ⟨g,hg⟩:∃ k,k=w2.heap.size:=⟨_,rfl⟩
   rw [← hw3]
   try rw [← hg]
   have HB3:Hid (Below w2.heap.size w2 w3):=by unfold Hid;rw [hw3];exact (Below.refl _ _).alloc (Nat.le_refl _) _
   have HK:Hid (Blk w3 g 78 #[.int .i64 md,.slice dA dl dc,.int .i64 tm]):=by unfold Hid;rw [hw3,hg];exact heap_alloc_new w2 _
   have HBY3:Hid (By (fun k=>G k∧k<w2.heap.size) w3 (.slice dA dl dc) dt):=HBY.out.bound.only (Only.of_below (M:=fun _=>False) HB3.out) (fun _ _=>id)
   have HP3:Hid (RPost F M w d c1 (i+1) w3):=HP.out.then_below HB3.out
   have k1:=HK.out.cell 1
   have kd:(convert 32 9 (.slice dA dl dc)).run Tryz.prog w3=.ok (.string (Tx.str dt)) w3:=conv_str w3 dA dt dl dc HDL.out HBY3.out.slv
   clear hw3 hg
   by_cases h0:re=0
   ·subst h0
    by_cases hdo:dt=old++[10]
    ·obtain ⟨e2,he2⟩:∃ k,remE c1 (refP n)=k:=⟨_,rfl⟩
     obtain ⟨c2,hc2⟩:∃ k,remC c1 (refP n)=k:=⟨_,rfl⟩
     have HE2:=Lib.hid he2
     have HC2:=Lib.hid hc2
     have HX:Hid (delE c n old=(if e2=0 then bgE c2 else e2)∧delC c n old=(if e2=0 then synC c2 else c2)):=by
      refine ⟨?_,?_⟩
      ·rw [HDE.out,if_neg (by simp),if_neg (fun x=>x hdo),he2,hc2]
      ·rw [HDC.out,if_neg (by simp),if_neg (fun x=>x hdo),he2,hc2]
     have y1:=rstr_same hdo
     clear hdo he2 hc2
     go_wp2_with fail
     rw [rplace_cat]
     refine (rrem_any (refP n) HP3.out (by omega) HLN.out).mono ?_
     rintro e w4 ⟨rfl,hp⟩
     rw [HC2.out] at hp
     have HP4:=Lib.hid hp
     rw [HE2.out]
     clear hp
     by_cases h2:e2=0
     ·subst h2
      have HX0:Hid (delE c n old=bgE c2∧delC c n old=synC c2):=HX.out
      obtain ⟨e3,he3⟩:∃ k,bgE c2=k:=⟨_,rfl⟩
      have HE3:=Lib.hid he3
      clear he3 HX
      go_wp2_with fail
      refine (rsyn_any HP4.out (by omega)).mono ?_
      rintro e w5 ⟨rfl,hp⟩
      have HP5:=Lib.hid hp
      rw [HE3.out]
      clear hp
      go_wp2_with fail
      go_ret
      exact ⟨by rw [HX0.out.1,HE3.out];rfl,by rw [HX0.out.2];exact HP5.out.upto (by omega)⟩
     ·have HX0:Hid (delE c n old=e2∧delC c n old=c2):=by have h:=HX.out;rwa [if_neg h2,if_neg h2] at h
      have y2:(e2 != 0)=true:=by simpa using h2
      have y3:(e2==0)=false:=by rw [beq_eq_false_iff_ne];exact h2
      clear h2 HX
      go_wp2_with fail
      go_ret
      exact ⟨by rw [HX0.out.1];rfl,by rw [HX0.out.2];exact HP4.out.upto (by omega)⟩
    ·have HX:Hid (delE c n old=13∧delC c n old=c1):=⟨by rw [HDE.out,if_neg (by simp),if_pos hdo],by rw [HDC.out,if_neg (by simp),if_pos hdo]⟩
     have y1:=rstr_nsame hdo
     clear hdo
     go_wp2_with fail
     go_ret
     exact ⟨by rw [HX.out.1];rfl,by rw [HX.out.2];exact HP3.out.upto (by omega)⟩
   ·have HX:Hid (delE c n old=re∧delC c n old=c1):=⟨by rw [HDE.out,if_pos h0],by rw [HDC.out,if_pos h0]⟩
    have y0:(re != 0)=true:=by simpa using h0
    have y1:(re==0)=false:=by rw [beq_eq_false_iff_ne];exact h0
    clear h0
    go_wp2_with fail
    go_ret
    exact ⟨by rw [HX.out.1];rfl,by rw [HX.out.2];exact HP3.out.upto (by omega)⟩
end Go.Proofs.YtlkolcokjmlmjaaGreat.Tx
namespace Go.Proofs.YtlkolcokjmlmjaaGreat.Tx
open Go.Proofs.YtlkolcokjmlmjaaGreat.Sh
def tle (s t:ByteArray):Bool:=Op.bytesLess s.toList t.toList||s.toList==t.toList
theorem tle_refl (s:ByteArray):tle s s=true:=by unfold tle;simp
theorem tle_cases {s t:ByteArray} (h:tle s t=true):bl s.toList t.toList=true∨s=t:=by
 unfold tle at h
 rw [Bool.or_eq_true] at h
 rcases h with h | h
 ·exact .inl h
 ·exact .inr (ba_ext (by simpa using h))
theorem tle_of_lt {s t:ByteArray} (h:bl s.toList t.toList=true):tle s t=true:=by unfold tle;rw [show Op.bytesLess s.toList t.toList=true from h];rfl
theorem tle_trans {s t u:ByteArray} (h1:tle s t=true) (h2:tle t u=true):tle s u=true:=by
 rcases tle_cases h1 with h1 | rfl
 ·rcases tle_cases h2 with h2 | rfl
  ·exact tle_of_lt (bl_trans _ _ _ h1 h2)
  ·exact tle_of_lt h1
 ·exact h2
theorem tle_not {s t:ByteArray} (h:tle s t=false):bl t.toList s.toList=true∧tle t s=true:=by
 have:bl t.toList s.toList=true:=by
  rcases bl_tri s.toList t.toList with h1 | h1 | h1
  ·rw [tle_of_lt h1] at h;cases h
  ·rw [ba_ext h1,tle_refl] at h;cases h
  ·exact h1
 exact ⟨this,tle_of_lt this⟩
abbrev Sorted (l:List ByteArray):Prop:=l.Pairwise (fun a b=>tle a b=true)
def insT (x:ByteArray):List ByteArray→List ByteArray
 | []=>[x]
 | y::l=>if tle y x then y::insT x l else x::y::l
def sortT (l:List ByteArray):List ByteArray:=l.foldl (fun acc x=>insT x acc) []
theorem insT_perm (x:ByteArray) (l:List ByteArray):(insT x l).Perm (x::l):=by
 induction l with
 | nil=>exact List.Perm.refl _
 | cons y l ih =>
  unfold insT
  by_cases h:tle y x=true
  ·rw [if_pos h];exact (List.Perm.cons y ih).trans (List.Perm.swap x y l)
  ·rw [if_neg h]
theorem insT_sorted (x:ByteArray) (l:List ByteArray) (h:Sorted l):Sorted (insT x l):=by
 induction l with
 | nil=>exact List.pairwise_singleton _ _
 | cons y l ih =>
  obtain ⟨h1,h2⟩:=List.pairwise_cons.1 h
  unfold insT
  by_cases hy:tle y x=true
  ·rw [if_pos hy]
   refine List.pairwise_cons.2 ⟨fun z hz=>?_,ih h2⟩
   rcases List.mem_cons.1 ((insT_perm x l).mem_iff.1 hz) with rfl | hz
   ·exact hy
   ·exact h1 z hz
  ·rw [if_neg hy]
   have hxy:tle x y=true:=(tle_not (by simpa using hy)).2
   refine List.pairwise_cons.2 ⟨fun z hz=>?_,h⟩
   rcases List.mem_cons.1 hz with rfl | hz
   ·exact hxy
   ·exact tle_trans hxy (h1 z hz)
theorem fold_perm (l:List ByteArray):∀ acc:List ByteArray,(l.foldl (fun acc x=>insT x acc) acc).Perm (acc++l)∧(Sorted acc→Sorted (l.foldl (fun acc x=>insT x acc) acc)):=by
 induction l with
 | nil=>intro acc;exact ⟨by simp,fun h=>h⟩
 | cons x l ih =>
  intro acc
  obtain ⟨h1,h2⟩:=ih (insT x acc)
  refine ⟨h1.trans ?_,fun h=>h2 (insT_sorted x acc h)⟩
  exact ((insT_perm x acc).append_right l).trans (by simpa using (List.perm_middle (a:=x) (l₁:=acc) (l₂:=l)).symm)
theorem sortT_perm (l:List ByteArray):(sortT l).Perm l:=(fold_perm l []).1
theorem sortT_sorted (l:List ByteArray):Sorted (sortT l):=(fold_perm l []).2 List.Pairwise.nil
def mergeL:List ByteArray→List ByteArray→List ByteArray
 | [],b=>b
 | x::a,[]=>x::a
 | x::a,y::b=>if tle x y then x::mergeL a (y::b) else y::mergeL (x::a) b
termination_by a b=>a.length+b.length
def passL (s:Nat) (xs:List ByteArray):List ByteArray :=
 if _h:xs=[]∨s=0 then xs else mergeL (xs.take s) ((xs.drop s).take s)++passL s (xs.drop (2*s))
termination_by xs.length
decreasing_by
 have:0<xs.length:=List.length_pos_iff.2 (fun e=>_h (.inl e))
 rw [List.length_drop]
 have:s≠0:=fun e=>_h (.inr e)
 omega
def Runs (s:Nat) (xs:List ByteArray):Prop:=∀ i,Sorted ((xs.drop (i*s)).take s)
end Go.Proofs.YtlkolcokjmlmjaaGreat.Tx
namespace Go.Proofs.YtlkolcokjmlmjaaGreat.Tx
open Go.RowKit Go.Proofs.YtlkolcokjmlmjaaGreat.Sh
def BlkL (w:World) (g:Nat) (L:List Value):Prop:=Blk w g 9 L.toArray
section
variable {w w':World} {g:Nat} {L:List Value}
end
def At (F:List Value) (o:Nat) (xs:List ByteArray):Prop:=∀ j s,xs[j]?=some s→F[o+j]?=some (sv s)
def MR (w:World) (gt gf n:Nat) (P old S F:List Value) (m0:List ByteArray) (va vb i:Value) (wr:World):Prop :=
 ∃ (k:Nat) (xa xb done:List ByteArray) (pa pb:Addr) (oa ob ca cb:Nat),k≤n∧i=.int .i64 k∧va=.slice (some pa) xa.length ca∧vb=.slice (some pb) xb.length cb∧xa.length≤ca∧ca≤maxLen∧xb.length≤cb∧cb≤maxLen ∧
  (0<xa.length→pa=⟨gf,oa,none⟩)∧(0<xb.length→pb=⟨gf,ob,none⟩)∧At F oa xa∧At F ob xb∧done.length=k∧k+xa.length+xb.length=n∧done++mergeL xa xb=m0 ∧
  BlkL wr gf F∧BlkL wr gt (P++(done.map sv++old.drop k)++S)∧w.grownBy wr (some gt)
end Go.Proofs.YtlkolcokjmlmjaaGreat.Tx
namespace Go.Proofs.YtlkolcokjmlmjaaGreat.Tx
open Go.RowKit Go.Proofs.YtlkolcokjmlmjaaGreat.Sh
end Go.Proofs.YtlkolcokjmlmjaaGreat.Tx
namespace Go.Proofs.YtlkolcokjmlmjaaGreat.Tx
open Go.RowKit Go.Proofs.YtlkolcokjmlmjaaGreat.Sh
theorem size_str (w:World):(sizeOf (Tryz.prog.elem 45)).run Tryz.prog w=.ok 1 w:=by kernel_rfl
def MP (w:World) (gt gf n s:Nat) (xs:List ByteArray) (i:Value) (wr:World):Prop :=
 ∃ (k:Nat) (done:List ByteArray) (rest:List Value),i=.int .i64 k∧k≤n+2*s∧done.length=min k n∧done.length+rest.length=n∧done++passL s (xs.drop k)=passL s xs∧BlkL wr gf (xs.map sv)∧BlkL wr gt (done.map sv++rest)∧w.grownBy wr (some gt)
end Go.Proofs.YtlkolcokjmlmjaaGreat.Tx
namespace Go.Proofs.YtlkolcokjmlmjaaGreat.Tx
open Go.RowKit Go.Proofs.YtlkolcokjmlmjaaGreat.Sh
def SR (w:World) (n:Nat) (xs:List ByteArray) (va vb i:Value) (wr:World):Prop :=
 ∃ (s gR gM:Nat) (ys:List ByteArray) (old:List Value),va=.slice (some ⟨gR,0,none⟩) n n∧vb=.slice (some ⟨gM,0,none⟩) n n∧i=.int .i64 s∧gM≠gR∧w.heap.size≤gR∧w.heap.size≤gM∧0<s∧s≤2000000∧Runs s ys∧ys.Perm xs∧BlkL wr gR (ys.map sv)∧BlkL wr gM old∧old.length=n∧Below w.heap.size w wr
end Go.Proofs.YtlkolcokjmlmjaaGreat.Tx
namespace Go.Proofs.YtlkolcokjmlmjaaGreat.Tx
open Go.RowKit Go.Proofs.YtlkolcokjmlmjaaGreat.Sh
end Go.Proofs.YtlkolcokjmlmjaaGreat.Tx
namespace Go.Proofs.YtlkolcokjmlmjaaGreat.Tx
open Go.Proofs.YtlkolcokjmlmjaaGreat.Sh
abbrev Strict (l:List ByteArray):Prop:=l.Pairwise (fun a b=>bl a.toList b.toList=true)
theorem strict_ext (a:List ByteArray):∀ b:List ByteArray,Strict a→Strict b→(∀ x,x∈a↔x∈b)→a=b:=by
 induction a with
 | nil =>
  intro b _ _ h
  cases b with
  | nil=>rfl
  | cons y b=>exact absurd ((h y).2 List.mem_cons_self) (by simp)
 | cons x a ih =>
  intro b ha hb h
  cases b with
  | nil=>exact absurd ((h x).1 List.mem_cons_self) (by simp)
  | cons y b =>
   obtain ⟨hxa,ha'⟩:=List.pairwise_cons.1 ha
   obtain ⟨hyb,hb'⟩:=List.pairwise_cons.1 hb
   have e:x=y:=by
    rcases List.mem_cons.1 ((h x).1 List.mem_cons_self) with e | hx
    ·exact e
    ·rcases List.mem_cons.1 ((h y).2 List.mem_cons_self) with e | hy
     ·exact e.symm
     ·have h1:=hxa y hy
      have h2:=bl_asymm _ _ (hyb x hx)
      rw [h1] at h2;cases h2
   subst e
   have hno1:x∉a:=fun hm=>by have:=hxa x hm;rw [bl_irr] at this;cases this
   have hno2:x∉b:=fun hm=>by have:=hyb x hm;rw [bl_irr] at this;cases this
   rw [ih b ha' hb' (fun z=>⟨fun hz=>by
    rcases List.mem_cons.1 ((h z).1 (List.mem_cons_of_mem _ hz)) with e | hz'
    ·subst e;exact absurd hz hno1
    ·exact hz',fun hz=>by
    rcases List.mem_cons.1 ((h z).2 (List.mem_cons_of_mem _ hz)) with e | hz'
    ·subst e;exact absurd hz hno2
    ·exact hz'⟩)]
def ddN (ts:List ByteArray):Nat→List ByteArray
 | 0=>[]
 | k+1=>if k=0∨(ts[k]?.map (·.toList)==ts[k - 1]?.map (·.toList))=false then ddN ts k++(ts[k]?.toList) else ddN ts k
def uniqT (xs:List ByteArray):List ByteArray:=ddN (sortT xs) (sortT xs).length
theorem ddN_first (ts:List ByteArray) (h:0<ts.length):ddN ts 1=ddN ts 0++[ts[0]]:=by
 show (if 0=0∨_ then _ else _)=_
 rw [if_pos (.inl rfl),List.getElem?_eq_getElem h];rfl
theorem ddN_skip (ts:List ByteArray) (j:Nat) (h:j+1<ts.length) (e:ts[j+1]=ts[j]):ddN ts (j+1+1)=ddN ts (j+1):=by
 rw [ddN,if_neg]
 rintro (h1 | h1)
 ·omega
 ·rw [Nat.add_sub_cancel,List.getElem?_eq_getElem h,List.getElem?_eq_getElem (by omega),e] at h1
  simp at h1
theorem ddN_more (ts:List ByteArray) (j:Nat) (h:j+1<ts.length) (e:ts[j+1]≠ts[j]):ddN ts (j+1+1)=ddN ts (j+1)++[ts[j+1]]:=by
 rw [ddN,if_pos,List.getElem?_eq_getElem h]
 ·rfl
 ·right
  rw [Nat.add_sub_cancel,List.getElem?_eq_getElem h,List.getElem?_eq_getElem (by omega),beq_eq_false_iff_ne]
  intro h1
  exact e (ba_ext (by simpa using h1))
theorem ddN_spec {ts:List ByteArray} (hs:Sorted ts):∀ k,k≤ts.length→Strict (ddN ts k)∧(∀ x,x∈ddN ts k↔x∈ts.take k):=by
 intro k
 induction k with
 | zero=>intro _;exact ⟨List.Pairwise.nil,by simp [ddN]⟩
 | succ k ih =>
  intro hk
  obtain ⟨h1,h2⟩:=ih (by omega)
  have htk:ts.take (k+1)=ts.take k++[ts[k]]:=List.take_succ_eq_append_getElem (by omega)
  have hle:∀ j (hj:j<k),tle (ts[j]'(by omega)) (ts[k]'(by omega))=true:=fun j hj=>List.pairwise_iff_getElem.1 hs j k (by omega) (by omega) hj
  cases k with
  | zero =>
   rw [ddN_first ts (by omega),htk]
   exact ⟨by simp [ddN],by simp [ddN]⟩
  | succ j =>
   by_cases e:ts[j+1]=ts[j]
   ·rw [ddN_skip ts j (by omega) e]
    refine ⟨h1,fun x=>?_⟩
    rw [h2,htk,List.mem_append,List.mem_singleton]
    constructor
    ·exact .inl
    ·rintro (h | h)
     ·exact h
     ·rw [h,e,List.take_succ_eq_append_getElem (by omega)]
      exact List.mem_append_right _ (List.mem_singleton.2 rfl)
   ·rw [ddN_more ts j (by omega) e]
    have hlast:bl ts[j].toList ts[j+1].toList=true:=by
     rcases tle_cases (hle j (by omega)) with h | h
     ·exact h
     ·exact absurd h.symm e
    refine ⟨List.pairwise_append.2 ⟨h1,List.pairwise_singleton _ _,fun y hy z hz=>?_⟩,fun x=>?_⟩
    ·obtain rfl:=List.mem_singleton.1 hz
     obtain ⟨i,hi,rfl⟩:=List.mem_iff_getElem.1 ((h2 y).1 hy)
     rw [List.length_take] at hi
     rw [List.getElem_take]
     rcases Nat.lt_or_ge i j with hij | hij
     ·rcases tle_cases (List.pairwise_iff_getElem.1 hs i j (by omega) (by omega) hij) with h | h
      ·exact bl_trans _ _ _ h hlast
      ·rw [h];exact hlast
     ·obtain rfl:i=j:=by omega
      exact hlast
    ·rw [List.mem_append,h2,htk,List.mem_append]
theorem uniqT_spec (xs:List ByteArray):Strict (uniqT xs)∧∀ x,x∈uniqT xs↔x∈xs:=by
 obtain ⟨h1,h2⟩:=ddN_spec (sortT_sorted xs) _ (Nat.le_refl _)
 refine ⟨h1,fun x=>?_⟩
 have:=h2 x
 rw [List.take_length] at this
 exact this.trans (sortT_perm xs).mem_iff
theorem uniqT_eq {a xs:List ByteArray} (h:Strict a) (hm:∀ x,x∈a↔x∈xs):a=uniqT xs :=
 strict_ext a _ h (uniqT_spec xs).1 (fun x=>(hm x).trans ((uniqT_spec xs).2 x).symm)
end Go.Proofs.YtlkolcokjmlmjaaGreat.Tx
namespace Go.Proofs.YtlkolcokjmlmjaaGreat.Tx
open Go.RowKit Go.Proofs.YtlkolcokjmlmjaaGreat.Sh
end Go.Proofs.YtlkolcokjmlmjaaGreat.Tx
namespace Go.Proofs.YtlkolcokjmlmjaaGreat.Tx
open Go.RowKit Go.Proofs.YtlkolcokjmlmjaaGreat.Sh
theorem OwnV.front {E:TypeId} {w:World} {B n c:Nat} {A:Option Addr} {vs:List Value} (h:OwnV E w B (.slice A n c) vs) (k:Nat) (hk:k≤vs.length) (hA:A≠none):OwnV E w B (.slice A k c) (vs.take k):=by
 rcases h.blk with ⟨he,_⟩ | ⟨g,c',cur,he,hb,_,hg,hc,hm,hs,ht⟩
 ·injection he with e1 _ _;exact absurd e1 hA
 ·injection he with e1 e2 e3
  subst e1 e3
  have el:k=(vs.take k).length:=by rw [List.length_take];omega
  conv=>arg 4;rw [el]
  refine OwnV.mk hb hg (by rw [List.length_take];omega) hm hs ?_
  rw [List.length_take,Nat.min_eq_left hk,← ht,List.take_take,Nat.min_eq_left hk]
theorem ins_perm (out:List ByteArray) (x:ByteArray) (k:Nat):(out.take k++([x]++out.drop k)).Perm (out++[x]):=by
 have h1:(out.take k++([x]++out.drop k)).Perm ([x]++(out.take k++out.drop k)):=by
  rw [← List.append_assoc,← List.append_assoc]
  exact (List.perm_append_comm (l₁:=out.take k) (l₂:=[x])).append_right _
 rw [List.take_append_drop] at h1
 exact h1.trans List.perm_append_comm
set_option maxRecDepth 100000 in
theorem texts_front (A:Option Addr) (l c k:Nat) (hkc:k≤c) (w:World):(Instr.slice 45 (.slice A l c) none (some (.int .i64 (k:Int))) none).run Tryz.prog w=.ok (.slice A k c) w:=by
 rw [run_slice_h w 45 A l c Tryz.underlying45 .i64 k (by omega) (by omega),size_str]
 simp only [Result.andThen_ok,sliced,Int.toNat_natCast]
 by_cases h:c=0
 ·subst h;simp
 ·have e:A.map (fun a=>a.add 0)=A:=by cases A <;> simp [Addr.add]
  simp [h,e]
set_option maxRecDepth 100000 in
theorem texts_back (A:Option Addr) (l c k:Nat) (hkl:k≤l) (w:World):(Instr.slice 45 (.slice A l c) (some (.int .i64 (k:Int))) none none).run Tryz.prog w=.ok (.slice (if c=k then A else A.map (·.add (k*1))) (l - k) (c - k)) w:=by
 rw [run_slice_l w 45 A l c Tryz.underlying45 .i64 k (by omega) (by omega),size_str]
 rfl
theorem ins_own {W W1 : World} {B p co n : Nat} {Ao : Option Addr} {out : List ByteArray} (ho : OwnV 9 W B (.slice Ao n co) (out.map sv)) (hn : out.length = n) (hp : p ≤ n) (hW1 : Below W.heap.size W W1) :
  OwnV 9 W1 B (.slice Ao p co) ((out.take p).map sv):=by
 have h1:=ho.below hW1
 cases Ao with
 | none =>
  have hn0:n=0∧co=0:=by
   rcases ho.blk with ⟨he,_⟩ | ⟨_,_,_,he,_⟩
   ·injection he with _ e2 e3;exact ⟨e2,e3⟩
   ·injection he with e1 _ _;cases e1
  obtain ⟨rfl,rfl⟩:=hn0
  obtain rfl:p=0:=by omega
  rw [List.take_zero]
  exact OwnV.nil_ _ _
 | some a =>
  have:=h1.front p (by rw [List.length_map];omega) (by intro e;cases e)
  rwa [List.map_take]
theorem one_more (x:ByteArray) (l:List ByteArray):∀ u∈[sv x]++l.map sv,u.oneCell'=true:=fun u hu=>sv_one (x::l) u (by rw [List.map_cons];exact hu)
theorem row_one (W:World) (x:ByteArray):(W.alloc (.cells #[.string x] 9)).ownsRow W.heap.size 9 1 (.slice (some ⟨W.heap.size,0,none⟩) 1 1) 1 [sv x] :=
 ⟨rfl,Or.inr ⟨W.heap.size,1,#[.string x],rfl,Nat.le_refl _,heap_alloc_new W _,Nat.le_refl _,by unfold maxLen;omega,by simp,by simp [sv]⟩⟩
theorem row_of {w:World} {B:Nat} {v:Value} {ts:List ByteArray} (h:OwnV 9 w B v (ts.map sv)) (n:Nat) (hn:ts.length=n):w.ownsRow B 9 1 v n (ts.map sv):=by unfold OwnV at h;rwa [List.length_map,hn] at h
theorem row_slice {w:World} {B n:Nat} {v:Value} {vs:List Value} (h:w.ownsRow B 9 1 v n vs):∃ A c,v=.slice A n c∧Reads w w.heap.size 1 A n vs:=by
 have hl:vs.length=n:=by have:=h.1;omega
 subst hl
 have h':OwnV 9 w B v vs:=h
 obtain ⟨A,c,hv,_,_,hr⟩:=h'.slv.len
 exact ⟨A,c,hv,hr⟩
theorem row_done {w:World} {B p m:Nat} {v:Value} {out:List ByteArray} {x:ByteArray} (hp:(out.take p).length=p) (hm:1+(out.drop p).length=m) (h:w.ownsRow B 9 1 v (p+m) ((out.take p).map sv++([sv x]++(out.drop p).map sv))):OwnV 9 w B v ((out.take p++([x]++out.drop p)).map sv):=by
 unfold OwnV
 rw [List.length_map,List.length_append,hp,List.length_append,List.length_singleton,hm,List.map_append,List.map_append]
 exact h
end Go.Proofs.YtlkolcokjmlmjaaGreat.Tx
