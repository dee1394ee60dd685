/- Texts put together: VRf0, VCv0, VRf4, VRf5. -/
import Derived.Test.YtlkolcokjmlmjaaGreatQv28
import Derived.Test.YtlkolcokjmlmjaaGreatQv12
import Derived.Test.YtlkolcokjmlmjaaGreatQv32
import Derived.Test.YtlkolcokjmlmjaaGreatQv30
import Derived.Test.YtlkolcokjmlmjaaGreatQv09
import Derived.Lib.ConvBytes
import Derived.Laws.AppendOwn
set_option linter.unusedVariables false
set_option linter.unusedSimpArgs false
namespace Go.Proofs.YtlkolcokjmlmjaaGreat.Tx
open Go.RowKit Go.Maps Go.Proofs.YtlkolcokjmlmjaaGreat.Sh
theorem place_cat (n:List UInt8):(⟨#[115,47,114,47]⟩:ByteArray)++str n=str (refP n):=str_append [115,47,114,47] n
theorem place_any (n:List UInt8) (w:World) (hn:n.length≤900000):Calls Tryz.prog 40 #[.string (Tx.str n)] w fun e w'=>e=.returned (.string (Tx.str (refP n)))∧w=w':=by
 have hb:¬ 9223372036854775807<4+(str n).size:=by rw [str_size];omega
 go_enter Tryz.func40,Tryz.ntmps40
 go_wp2
 go_ret
 exact ⟨by rw [place_cat];rfl,rfl⟩
theorem lock_cat (n:List UInt8):(⟨#[115,47,108,47]⟩:ByteArray)++str n=str (lockP n):=str_append [115,47,108,47] n
theorem lock_any (n:List UInt8) (w:World) (hn:n.length≤900000):Calls Tryz.prog 32 #[.string (Tx.str n)] w fun e w'=>e=.returned (.string (Tx.str (lockP n)))∧w=w':=by
 have hb:¬ 9223372036854775807<4+(str n).size:=by rw [str_size];omega
 go_enter Tryz.func32,Tryz.ntmps32
 go_wp2
 go_ret
 exact ⟨by rw [lock_cat];rfl,rfl⟩
set_option maxRecDepth 100000 in
theorem rd_any (F M : Nat → Prop) (b : Nat) (c : CSt) (N : Nat) (n : List UInt8) (w : World) (h : FcAt F w b c M) (hr : CReady c N) (hn : n.length ≤ 900000) :
  Calls Tryz.prog 25 #[.pointer (some ⟨b,0,none⟩),.string (Tx.str n)] w fun e w'=>e=.returned (.tuple #[.string (Tx.str (redF c (refP n)).data),.int .i64 (redE c (refP n))])∧FcPost F M w b (bgC c).c w':=by
 have H:=Lib.hid h
 have HR:=Lib.hid hr
 clear h hr
 go_enter Tryz.func25,Tryz.ntmps25
 go_wp2_with fail
 refine (place_any n w hn).mono ?_
 rintro e w1 ⟨rfl,rfl⟩
 go_wp2_with fail
 refine (read_any F M b c N (refP n) w H.out HR.out (by rw [refP_len];omega)).mono ?_
 rintro e w2 ⟨u,v,M',rfl,rfl,hat,hon,hsub,hby⟩
 obtain ⟨A,dc,rfl,_,_⟩:=hby.slice
 have HBY:=Lib.hid hby
 have HP:Hid (FcPost F M w b (bgC c).c w2):=⟨M',hat,hon,hsub⟩
 clear hat hon hsub
 obtain ⟨fl,hfl⟩:∃ k,(redF c (refP n)).data.length=k:=⟨_,rfl⟩
 rw [hfl] at hby ⊢
 obtain ⟨mo,hmo⟩:∃ k,(redF c (refP n)).mode=k:=⟨_,rfl⟩
 obtain ⟨ti,hti⟩:∃ k,(redF c (refP n)).time=k:=⟨_,rfl⟩
 obtain ⟨er,her⟩:∃ k,redE c (refP n)=k:=⟨_,rfl⟩
 obtain ⟨d,hd⟩:∃ k,(redF c (refP n)).data=k:=⟨_,rfl⟩
 rw [hd] at hby hfl
 rw [hmo,hti,her]
 have HD:=Lib.hid hd
 have HER:=Lib.hid her
 have hba:Below w2.heap.size w2 (w2.alloc (.cells #[.int .i64 mo,.slice A fl dc,.int .i64 ti] 91)):=(Below.refl _ _).alloc (Nat.le_refl _) _
 have kd:(convert 32 9 (.slice A fl dc)).run Tryz.prog (w2.alloc (.cells #[.int .i64 mo,.slice A fl dc,.int .i64 ti] 91))=.ok (.string (Tx.str d)) (w2.alloc (.cells #[.int .i64 mo,.slice A fl dc,.int .i64 ti] 91)):=conv_str _ A d fl dc hfl (hby.only (Only.of_below (M:=fun _=>False) hba) (fun _ _=>id)).slv
 have HBA:=Lib.hid hba
 clear hba hmo hti her hd hfl hby HBY
 go_wp2_with fail
 go_ret2
 exact ⟨by rw [HD.out,HER.out];rfl,HP.out.then_below HBA.out⟩
theorem red_short {c:CSt} {N:Nat} (h:CReady c N) (p:List UInt8):(redF c p).data.length≤20000:=by
 unfold redF
 split
 ·exact peek_short h.small.hrow p
 ·decide
theorem suff_any (d:List UInt8) (w:World) (hd:d.length≤900000):Calls Tryz.prog 86 #[.string (Tx.str d),.string ⟨#[10]⟩] w fun e w'=>e=.returned (.tuple #[.string (Tx.str (if [10].isSuffixOf d=true then d.take (d.length - 1) else d)),.bool ([10].isSuffixOf d)])∧w=w':=by
 refine (Tryz.strings_CutSuffix (str d) ⟨#[10]⟩ w (by rw [str_size];omega)).mono ?_
 rintro e w' ⟨rfl,rfl⟩
 refine ⟨?_,rfl⟩
 have e1:(str d).data.toList=d:=by unfold str;simp
 rw [e1]
 rfl
set_option maxRecDepth 100000 in
theorem hin_any (d:List UInt8) (w:World) (hd:d.length≤900000):Calls Tryz.prog 26 #[.string (Tx.str d)] w fun e w'=>e=.returned (.tuple #[.string (Tx.str (hinV d)),.bool (hinB d)])∧w=w':=by
 obtain ⟨t,ht⟩:∃ t,[10].isSuffixOf d=t:=⟨_,rfl⟩
 have HT:=Lib.hid ht
 clear ht
 go_enter Tryz.func26,Tryz.ntmps26
 go_wp2_with fail
 refine (suff_any d w hd).mono ?_
 rintro e w1 ⟨rfl,rfl⟩
 rw [HT.out]
 cases t with
 | false =>
  have HE:Hid (hinB d=false∧hinV d=[]):=by
   have h1:hinB d=false:=by unfold hinB;rw [HT.out];rfl
   exact ⟨h1,by unfold hinV;rw [h1];rfl⟩
  rw [if_neg (by decide)]
  go_wp2_with fail
  go_ret2
  exact ⟨by rw [HE.out.1,HE.out.2];rfl,rfl⟩
 | true =>
  rw [if_pos rfl]
  obtain ⟨u,hu⟩:∃ u,d.take (d.length - 1)=u:=⟨_,rfl⟩
  have HU:=Lib.hid hu
  have hul:u.length≤900000:=by rw [← hu,List.length_take];omega
  rw [hu]
  obtain ⟨q,hq⟩:∃ q,validB u=q:=⟨_,rfl⟩
  have HQ:=Lib.hid hq
  clear hu hq
  go_wp2_with fail
  refine (valid_any u q HQ.out w (by omega)).mono ?_
  rintro e w2 ⟨rfl,rfl⟩
  have HB:Hid (hinB d=q):=by unfold Hid hinB;rw [HT.out,HU.out,HQ.out];rfl
  cases q with
  | false =>
   have HV:Hid (hinV d=[]):=by unfold Hid hinV;rw [HB.out];rfl
   go_wp2_with fail
   go_ret2
   exact ⟨by rw [HB.out,HV.out];rfl,rfl⟩
  | true =>
   have HV:Hid (hinV d=u):=by unfold Hid hinV;rw [HB.out,if_pos rfl,HU.out]
   go_wp2_with fail
   go_ret2
   exact ⟨by rw [HB.out,HV.out];rfl,rfl⟩
set_option maxRecDepth 100000 in
theorem get_any (F M : Nat → Prop) (b : Nat) (c : CSt) (N : Nat) (n : List UInt8) (w : World) (h : FcAt F w b c M) (hr : CReady c N) (hn : n.length ≤ 900000) :
  Calls Tryz.prog 8 #[.pointer (some ⟨b,0,none⟩),.string (Tx.str n)] w fun e w'=>e=.returned (.tuple #[.string (Tx.str (getV c n)),.int .i64 (getE c n)])∧FcPost F M w b (getC c n) w':=by
 have H:=Lib.hid h
 have HR:=Lib.hid hr
 obtain ⟨t,ht⟩:∃ t,nameB n=t:=⟨_,rfl⟩
 have HT:=Lib.hid ht
 clear h hr ht
 go_enter Tryz.func8,Tryz.ntmps8
 go_wp2_with fail
 refine (cname_any n w (by omega)).mono ?_
 rintro e w1 ⟨rfl,rfl⟩
 rw [HT.out]
 cases t with
 | false =>
  have HE:=Lib.hid (get_noname (c:=c) HT.out)
  go_wp2_with fail
  go_ret2
  exact ⟨by rw [HE.out.1,HE.out.2.1];rfl,by rw [HE.out.2.2];exact FcPost.refl H.out⟩
 | true =>
  have HC:Hid (getC c n=(bgC c).c):=by unfold Hid getC;rw [if_neg (by rw [HT.out];decide)]
  go_wp2_with fail
  refine (rd_any F M b c N n w H.out HR.out hn).mono ?_
  rintro e w2 ⟨rfl,hp⟩
  have HP:Hid (FcPost F M w b (getC c n) w2):=by rw [HC.out];exact hp
  have hdl:=red_short HR.out (refP n)
  obtain ⟨d,hd⟩:∃ d,(redF c (refP n)).data=d:=⟨_,rfl⟩
  obtain ⟨re,hre⟩:∃ k,redE c (refP n)=k:=⟨_,rfl⟩
  rw [hd] at hdl ⊢
  rw [hre]
  have HD:=Lib.hid hd
  have HRE:=Lib.hid hre
  clear hp hd hre
  by_cases hr0:re=0
  ·subst hr0
   go_wp2_with fail
   refine (hin_any d w2 (by omega)).mono ?_
   rintro e w3 ⟨rfl,rfl⟩
   obtain ⟨q,hq⟩:∃ q,hinB d=q:=⟨_,rfl⟩
   have HQ:=Lib.hid hq
   rw [hq]
   clear hq
   cases q with
   | false =>
    have HE:Hid (getE c n=4∧getV c n=[]):=by
     have h1:getE c n=4:=by unfold getE;rw [if_neg (by rw [HT.out];decide),if_neg (by rw [HRE.out];decide),HD.out,HQ.out];rfl
     exact ⟨h1,by unfold getV;rw [h1];rfl⟩
    go_wp2_with fail
    go_ret2
    exact ⟨by rw [HE.out.1,HE.out.2];rfl,HP.out⟩
   | true =>
    have HE:Hid (getE c n=0∧getV c n=hinV d):=by
     have h1:getE c n=0:=by unfold getE;rw [if_neg (by rw [HT.out];decide),if_neg (by rw [HRE.out];decide),HD.out,HQ.out];rfl
     exact ⟨h1,by unfold getV;rw [h1,if_pos rfl,HD.out]⟩
    go_wp2_with fail
    go_ret2
    exact ⟨by rw [HE.out.1,HE.out.2];rfl,HP.out⟩
  ·have e1:(re != 0)=true:=by simpa using hr0
   have HE:Hid (getE c n=re∧getV c n=[]):=by
    have h1:getE c n=re:=by unfold getE;rw [if_neg (by rw [HT.out];decide),HRE.out,if_pos hr0]
    exact ⟨h1,by unfold getV;rw [h1,if_neg hr0]⟩
   have e2:(re==0)=false:=by rw [beq_eq_false_iff_ne];exact hr0
   clear hr0
   go_wp2_with fail
   go_ret2
   exact ⟨by rw [HE.out.1,HE.out.2];rfl,HP.out⟩
end Go.Proofs.YtlkolcokjmlmjaaGreat.Tx
set_option linter.unusedVariables false
set_option linter.unusedSimpArgs false
namespace Go.Proofs.YtlkolcokjmlmjaaGreat.Tx
open Go.RowKit Go.Proofs.YtlkolcokjmlmjaaGreat.Sh
theorem bytes_below (w:World) (e:TypeId) (s:ByteArray):Below w.heap.size w (Lib.bytesWorld w e s):=by
 refine ⟨?_,?_,?_,by rw [Lib.bytesWorld_size];omega,fun k hk=>Lib.bytesWorld_at_old w e s k hk⟩ <;>
  simp [Lib.bytesWorld,World.freeze,World.alloc,World.drew,-World.alloc_eq,-World.drew_eq]
theorem bytes_new (w:World) (bs:List UInt8) (hs:bs.length≤1000000):∃ wn cap,(convert 9 32 (.string (str bs))).run Tryz.prog w=.ok (.slice (some ⟨w.heap.size,0,none⟩) bs.length cap) wn∧Below w.heap.size w wn∧w.heap.size<wn.heap.size∧By (fun k=>k=w.heap.size) wn (.slice (some ⟨w.heap.size,0,none⟩) bs.length cap) bs:=by
 have hsz:=str_size bs
 refine ⟨Lib.bytesWorld w 5 (str bs),grownCap w bs.length 0 5,?_,bytes_below w _ _,by rw [Lib.bytesWorld_size];omega,?_⟩
 ·have:=Lib.run_convert_string_bytes (P:=Tryz.prog) w 9 32 5 (str bs) Tryz.underlying9 Tryz.underlying32 Tryz.underlying5
  rw [hsz] at this
  exact this
 ·refine ⟨some ⟨w.heap.size,0,none⟩,_,rfl,grownCap_ge _ _ _ _,grownCap_le_maxLen _ _ _ _ (by unfold maxLen;omega),by simp,(fun h=>by cases h),fun _=>⟨_,rfl,rfl,by rw [Lib.bytesWorld_size];show w.heap.size<_;omega,fun j u hu=>?_⟩⟩
  have hj:j<bs.length:=by have:=(List.getElem?_eq_some_iff.1 hu).1;simpa using this
  rw [Addr.add_mid,Nat.zero_add,Lib.bytesWorld_cell w 5 (str bs) j (by rw [hsz];exact hj),← hu]
  have e1:(str bs).data.toList=bs:=by unfold str;simp
  rw [e1]
  simp [bv,bi,hj]
end Go.Proofs.YtlkolcokjmlmjaaGreat.Tx
set_option linter.unusedVariables false
set_option linter.unusedSimpArgs false
namespace Go.Proofs.YtlkolcokjmlmjaaGreat.Tx
open Go.RowKit Go.Maps Go.Proofs.YtlkolcokjmlmjaaGreat.Sh
theorem end_cat (h:List UInt8):str h++(⟨#[10]⟩:ByteArray)=str (h++[10]):=str_append h [10]
set_option maxRecDepth 100000 in
set_option maxHeartbeats 1600000 in
theorem exp_any (F M : Nat → Prop) (b : Nat) (c : CSt) (N : Nat) (n old : List UInt8) (w : World) (h : FcAt F w b c M) (hr : CReady c N) (hn : n.length ≤ 900000) (hol : old.length ≤ 900000) :
  Calls Tryz.prog 93 #[.pointer (some ⟨b,0,none⟩),.string (Tx.str n),.string (Tx.str old)] w fun e w'=>e=.returned (.int .i64 (expE c n old))∧FcPost F M w b (bgC c).c w':=by
 have H:=Lib.hid h
 have HR:=Lib.hid hr
 have hb:¬ 9223372036854775807<(str old).size+1:=by rw [str_size];omega
 have hb':¬ 9223372036854775807<1+(str old).size:=by rw [str_size];omega
 obtain ⟨re,hre⟩:∃ k,redE c (refP n)=k:=⟨_,rfl⟩
 obtain ⟨d,hd⟩:∃ d,(redF c (refP n)).data=d:=⟨_,rfl⟩
 have HD:=Lib.hid hd
 have HRE:=Lib.hid hre
 clear h hr hd hre
 go_enter Tryz.func93,Tryz.ntmps93
 go_wp2_with fail
 refine (rd_any F M b c N n w H.out HR.out hn).mono ?_
 rintro e w2 ⟨rfl,hp⟩
 have HP:=Lib.hid hp
 rw [HD.out,HRE.out]
 clear hp
 by_cases h7:re=7
 ·subst h7
  by_cases ho:old=[]
  ·have HE:Hid (expE c n old=0):=by unfold Hid expE;rw [if_pos HRE.out,if_pos ho]
   obtain ⟨z2,z3⟩:=str_nil ho
   clear ho
   go_wp2_with fail
   go_ret
   exact ⟨by rw [HE.out];rfl,HP.out⟩
  ·have HE:Hid (expE c n old=13):=by unfold Hid expE;rw [if_pos HRE.out,if_neg ho]
   obtain ⟨z2,z3⟩:=str_some ho
   clear ho
   go_wp2_with fail
   go_ret
   exact ⟨by rw [HE.out];rfl,HP.out⟩
 ·have e7:(re==7)=false:=by rw [beq_eq_false_iff_ne];exact h7
  by_cases h0:re=0
  ·subst h0
   by_cases ho:old=[]
   ·have HE:Hid (expE c n old=13):=by unfold Hid expE;rw [if_neg (by rw [HRE.out];decide),if_neg (by rw [HRE.out];decide),if_pos (.inl ho)]
    obtain ⟨z2,z3⟩:=str_nil ho
    clear ho h7 e7
    go_wp2_with fail
    go_ret
    exact ⟨by rw [HE.out];rfl,HP.out⟩
   ·obtain ⟨z2,z3⟩:=str_some ho
    have hcat:=end_cat old
    have htl:(str (old++[10])).toList=old++[10]:=str_toList _
    have hdl:(str d).toList=d:=str_toList _
    by_cases hdo:d=old++[10]
    ·have HE:Hid (expE c n old=0):=by unfold Hid expE;rw [if_neg (by rw [HRE.out];decide),if_neg (by rw [HRE.out];decide),if_neg];rintro (x | x);exact ho x;rw [HD.out] at x;exact x hdo
     have HX:=Lib.hid ho
     clear ho h7 e7
     go_wp2_with fail
     go_ret
     exact ⟨by rw [HE.out];rfl,HP.out⟩
    ·have HE:Hid (expE c n old=13):=by unfold Hid expE;rw [if_neg (by rw [HRE.out];decide),if_neg (by rw [HRE.out];decide),if_pos];right;rw [HD.out];exact hdo
     have e3:(d==old++[10])=false:=list_other hdo
     clear ho h7 e7 hdo
     go_wp2_with fail
     go_ret
     exact ⟨by rw [HE.out];rfl,HP.out⟩
  ·have HE:Hid (expE c n old=re):=by unfold Hid expE;rw [if_neg (by rw [HRE.out];exact h7),HRE.out,if_pos h0]
   have e0:(re != 0)=true:=by simpa using h0
   have e1:(re==0)=false:=by rw [beq_eq_false_iff_ne];exact h0
   clear h0 h7
   go_wp2_with fail
   go_ret
   exact ⟨by rw [HE.out];rfl,HP.out⟩
set_option maxRecDepth 100000 in
set_option maxHeartbeats 3200000 in
theorem sl_any (F M : Nat → Prop) (b : Nat) (c : CSt) (i : Nat) (n old : List UInt8) (w : World) (h : FcAt F w b c M) (hg : GoC c i) (hi : i ≤ 3900) (hn : n.length ≤ 900000) (hol : old.length ≤ 900000) :
  Calls Tryz.prog 33 #[.pointer (some ⟨b,0,none⟩),.string (Tx.str n),.string (Tx.str old)] w fun e w'=>e=.returned (.int .i64 (slE c n old))∧FcPost F M w b (slC c n old) w':=by
 have H:=Lib.hid h
 have HG:=Lib.hid hg
 have HG1:=Lib.hid hg.bg
 have HG2:=Lib.hid (hg.prep n old)
 have HG3:=Lib.hid ((hg.prep n old).mov (lockP n) (refP n) false)
 obtain ⟨e1,he1⟩:∃ k,expE c n old=k:=⟨_,rfl⟩
 have HE1:=Lib.hid he1
 obtain ⟨c1,hc1⟩:∃ x,(bgC c).c=x:=⟨_,rfl⟩
 have HC1:=Lib.hid hc1
 rw [hc1] at HG1
 obtain ⟨c2,hc2⟩:∃ x,prepC c n old=x:=⟨_,rfl⟩
 have HC2:=Lib.hid hc2
 rw [hc2] at HG2 HG3
 have HLN:Hid ((lockP n).length≤1000000∧(refP n).length≤1000000):=by unfold Hid;rw [lockP_len,refP_len];omega
 clear h hg he1 hc1 hc2
 have HFAIL:Hid (∀ k,prepE c n old=k→k≠0→slE c n old=k∧slC c n old=remC c2 (lockP n)):=fun k hk hk0=>⟨by unfold slE;rw [hk,if_neg hk0],by unfold slC;rw [hk,if_neg hk0,HC2.out]⟩
 go_enter Tryz.func33,Tryz.ntmps33
 go_wp2_with fail
 refine (exp_any F M b c _ n old w H.out (HG.out.ready (by omega)) hn hol).mono ?_
 rintro e w2 ⟨rfl,hp⟩
 rw [HE1.out]
 rw [HC1.out] at hp
 have HP1:=Lib.hid hp
 clear hp
 by_cases h0:e1=0
 ·subst h0
  obtain ⟨e2,he2⟩:∃ k,bgE c1=k:=⟨_,rfl⟩
  have HE2:=Lib.hid he2
  have HX:Hid (prepE c n old=e2∧synC c1=c2):=by
   refine ⟨?_,?_⟩
   ·unfold prepE;rw [if_pos HE1.out,HC1.out];exact HE2.out
   ·rw [← HC2.out];unfold prepC;rw [if_pos HE1.out,HC1.out]
  obtain ⟨M1,g1,g2,g3⟩:=HP1.out
  have HA:=Lib.hid g1
  have HB:=Lib.hid g2
  have HC:=Lib.hid g3
  clear he2 g1 g2 g3
  go_wp2_with fail
  refine (syncf_any _ M1 b c1 _ w2 HA.out (HG1.out.ready (by omega))).mono ?_
  rintro e w3 ⟨rfl,hp⟩
  rw [HX.out.2] at hp
  have HP2:=Lib.hid (FcPost.trans HB.out HC.out hp)
  rw [HE2.out]
  clear hp HA HB HC
  by_cases h2:e2=0
  ·subst h2
   obtain ⟨e3,he3⟩:∃ k,movE c2 (lockP n) (refP n) false=k:=⟨_,rfl⟩
   have HE3:=Lib.hid he3
   obtain ⟨c3,hc3⟩:∃ k,movC c2 (lockP n) (refP n) false=k:=⟨_,rfl⟩
   have HC3:=Lib.hid hc3
   rw [hc3] at HG3
   obtain ⟨M1,g1,g2,g3⟩:=HP2.out
   have HA:=Lib.hid g1
   have HB:=Lib.hid g2
   have HC:=Lib.hid g3
   clear he3 hc3 g1 g2 g3
   go_wp2_with fail
   refine (lock_any n w3 hn).mono ?_
   rintro e w4 ⟨rfl,rfl⟩
   go_wp2_with fail
   refine (place_any n w3 hn).mono ?_
   rintro e w4 ⟨rfl,rfl⟩
   go_wp2_with fail
   refine (movef_any _ M1 b c2 _ (lockP n) (refP n) w3 HA.out (HG2.out.ready (by omega)) HLN.out.1 HLN.out.2).mono ?_
   rintro e w4 ⟨rfl,hp⟩
   rw [HC3.out] at hp
   rw [HE3.out]
   have HP3:=Lib.hid (FcPost.trans HB.out HC.out hp)
   clear hp HA HB HC
   by_cases h3:e3=0
   ·subst h3
    obtain ⟨e4,he4⟩:∃ k,bgE c3=k:=⟨_,rfl⟩
    have HE4:=Lib.hid he4
    have HEND:Hid (slE c n old=e4∧slC c n old=synC c3):=⟨by unfold slE;rw [if_pos HX.out.1,HC2.out,HE3.out,if_pos rfl,HC3.out,HE4.out],by unfold slC;rw [if_pos HX.out.1,HC2.out,HE3.out,if_pos rfl,HC3.out]⟩
    obtain ⟨M1,g1,g2,g3⟩:=HP3.out
    have HA:=Lib.hid g1
    have HB:=Lib.hid g2
    have HC:=Lib.hid g3
    clear he4 g1 g2 g3
    go_wp2_with fail
    refine (syncf_any _ M1 b c3 _ w4 HA.out (HG3.out.ready (by omega))).mono ?_
    rintro e w5 ⟨rfl,hp⟩
    have HP4:=Lib.hid (FcPost.trans HB.out HC.out hp)
    rw [HE4.out]
    clear hp HA HB HC
    go_wp2_with fail
    go_ret
    exact ⟨by rw [HEND.out.1];rfl,by rw [HEND.out.2];exact HP4.out⟩
   ·have HEND:Hid (slE c n old=e3∧slC c n old=c3):=⟨by unfold slE;rw [if_pos HX.out.1,HC2.out,HE3.out,if_neg h3],by unfold slC;rw [if_pos HX.out.1,HC2.out,HE3.out,if_neg h3,HC3.out]⟩
    have y0:(e3 != 0)=true:=by simpa using h3
    have y1:(e3==0)=false:=by rw [beq_eq_false_iff_ne];exact h3
    clear h3
    go_wp2_with fail
    go_ret
    exact ⟨by rw [HEND.out.1];rfl,by rw [HEND.out.2];exact HP3.out⟩
  ·have HEND:=Lib.hid (HFAIL.out e2 HX.out.1 h2)
   have y0:(e2 != 0)=true:=by simpa using h2
   have y1:(e2==0)=false:=by rw [beq_eq_false_iff_ne];exact h2
   obtain ⟨M1,g1,g2,g3⟩:=HP2.out
   have HA:=Lib.hid g1
   have HB:=Lib.hid g2
   have HC:=Lib.hid g3
   clear h2 g1 g2 g3
   go_wp2_with fail
   refine (lock_any n w3 hn).mono ?_
   rintro e w4 ⟨rfl,rfl⟩
   go_wp2_with fail
   refine (removef_any _ M1 b c2 _ (lockP n) w3 HA.out (HG2.out.ready (by omega)) HLN.out.1).mono ?_
   rintro e w4 ⟨rfl,hp⟩
   have HP3:=Lib.hid (FcPost.trans HB.out HC.out hp)
   clear hp HA HB HC
   go_wp2_with fail
   go_ret
   exact ⟨by rw [HEND.out.1];rfl,by rw [HEND.out.2];exact HP3.out⟩
 ·have HX : Hid (prepE c n old = e1 ∧ c1 = c2) := by
   refine ⟨by unfold prepE;rw [HE1.out,if_neg h0],?_⟩
   rw [← HC2.out,← HC1.out];unfold prepC;rw [HE1.out,if_neg h0]
  have HEND:=Lib.hid (HFAIL.out e1 HX.out.1 h0)
  have y0:(e1 != 0)=true:=by simpa using h0
  have y1:(e1==0)=false:=by rw [beq_eq_false_iff_ne];exact h0
  obtain ⟨M1,g1,g2,g3⟩:=HP1.out
  rw [HX.out.2] at g1
  have HA:=Lib.hid g1
  have HB:=Lib.hid g2
  have HC:=Lib.hid g3
  clear h0 g1 g2 g3
  go_wp2_with fail
  refine (lock_any n w2 hn).mono ?_
  rintro e w4 ⟨rfl,rfl⟩
  go_wp2_with fail
  refine (removef_any _ M1 b c2 _ (lockP n) w2 HA.out (HG2.out.ready (by omega)) HLN.out.1).mono ?_
  rintro e w4 ⟨rfl,hp⟩
  have HP3:=Lib.hid (FcPost.trans HB.out HC.out hp)
  clear hp HA HB HC
  go_wp2_with fail
  go_ret
  exact ⟨by rw [HEND.out.1];rfl,by rw [HEND.out.2];exact HP3.out⟩
set_option maxRecDepth 100000 in
set_option maxHeartbeats 3200000 in
theorem set_any (F M : Nat → Prop) (b : Nat) (c : CSt) (i : Nat) (n old new : List UInt8) (w : World) (h : FcAt F w b c M) (hg : GoC c i) (hi : i ≤ 3800) (hn : n.length ≤ 900000) (hol : old.length ≤ 900000) (hnl : new.length ≤ 900000) :
  Calls Tryz.prog 10 #[.pointer (some ⟨b,0,none⟩),.string (Tx.str n),.string (Tx.str old),.string (Tx.str new)] w fun e w'=>e=.returned (.int .i64 (setE c n old new))∧FcPost F M w b (setC c n old new) w':=by
 have H:=Lib.hid h
 have HG:=Lib.hid hg
 have hb:¬ 9223372036854775807<(str new).size+1:=by rw [str_size];omega
 have hcat:=end_cat new
 obtain ⟨t,ht⟩:∃ t,nameB n=t:=⟨_,rfl⟩
 have HT:=Lib.hid ht
 obtain ⟨v,hv⟩:∃ t,validB new=t:=⟨_,rfl⟩
 have HV:=Lib.hid hv
 have HRF:Hid (FcPost F M w b c w):=FcPost.refl h
 clear h hg ht hv
 go_enter Tryz.func10,Tryz.ntmps10
 go_wp2_with fail
 refine (cname_any n w (by omega)).mono ?_
 rintro e w1 ⟨rfl,rfl⟩
 rw [HT.out]
 cases t with
 | false =>
  have HE:=Lib.hid (set_noname (c:=c) HT.out old new)
  go_wp2_with fail
  go_ret
  exact ⟨by rw [HE.out.1];rfl,by rw [HE.out.2];exact HRF.out⟩
 | true =>
  go_wp2_with fail
  refine (valid_any new v HV.out w (by omega)).mono ?_
  rintro e w1 ⟨rfl,rfl⟩
  cases v with
  | false =>
   have HE:=Lib.hid (set_range (c:=c) (old:=old) HT.out (.inl HV.out))
   go_wp2_with fail
   go_ret
   exact ⟨by rw [HE.out.1];rfl,by rw [HE.out.2];exact HRF.out⟩
  | true =>
   have key:∀ (hgood:old=[]∨validB old=true),Hid (setE c n old new=(if crtE c (lockP n) 1 (new++[10]) true=0 then slE (crtC c (lockP n) 1 (new++[10]) true) n old else if crtE c (lockP n) 1 (new++[10]) true=8 then 13 else crtE c (lockP n) 1 (new++[10]) true) ∧
  setC c n old new=(if crtE c (lockP n) 1 (new++[10]) true=0 then slC (crtC c (lockP n) 1 (new++[10]) true) n old else crtC c (lockP n) 1 (new++[10]) true)):=fun hgood=>set_good HT.out HV.out hgood
   have KEY:=Lib.hid key
   clear key
   by_cases ho:old=[]
   ·have HS:=KEY.out (.inl ho)
    obtain ⟨z2,z3⟩:=str_nil ho
    clear ho KEY
    go_wp2_with fail
    refine (lock_any n w hn).mono ?_
    rintro e w1 ⟨rfl,rfl⟩
    obtain ⟨wn,cap,hconv,hbn,hzn,hby⟩:=bytes_new w (new++[10]) (by simp;omega)
    have h65:(new++[10]).length=65:=by simp [valid_len HV.out]
    rw [h65] at hconv hby
    clear h65
    have HBN:=Lib.hid hbn
    have HBY:=Lib.hid hby
    obtain ⟨e1,he1⟩:∃ k,crtE c (lockP n) 1 (new++[10]) true=k:=⟨_,rfl⟩
    obtain ⟨c1,hc1⟩:∃ k,crtC c (lockP n) 1 (new++[10]) true=k:=⟨_,rfl⟩
    have HE1:=Lib.hid he1
    have HC1:=Lib.hid hc1
    have HG1:Hid (GoC c1 (i+1)):=by rw [← hc1];exact HG.out.crt _ _ _ _
    rw [he1,hc1] at HS
    clear hbn hzn hby he1 hc1
    go_wp2_with fail
    refine (create_any F M b c _ (lockP n) 1 (.slice (some ⟨w.heap.size,0,none⟩) 65 cap) (new++[10]) (fun k=>k=w.heap.size) wn (H.out.below HBN.out) (HG.out.ready (by omega)) HBY.out (fun k hk hm=>by have:=H.out.lt k hm;omega) (by rw [lockP_len];omega)).mono ?_
    rintro e w2 ⟨rfl,hp⟩
    rw [HC1.out] at hp
    have HP1:=Lib.hid (FcPost.of_below HBN.out hp)
    rw [HE1.out]
    clear hp hconv HBY
    by_cases h0:e1=0
    ·subst h0
     have HEND:Hid (setE c n old new=slE c1 n old∧setC c n old new=slC c1 n old):=HS.out
     obtain ⟨M1,g1,g2,g3⟩:=HP1.out
     have HA:=Lib.hid g1
     have HB:=Lib.hid g2
     have HC:=Lib.hid g3
     clear g1 g2 g3 HS
     go_wp2_with fail
     refine (sl_any _ M1 b c1 (i+1) n old w2 HA.out HG1.out (by omega) hn hol).mono ?_
     rintro e w3 ⟨rfl,hp⟩
     have HP2:=Lib.hid (FcPost.trans HB.out HC.out hp)
     clear hp HA HB HC
     obtain ⟨e2,he2⟩:∃ k,slE c1 n old=k:=⟨_,rfl⟩
     have HE2:=Lib.hid he2
     rw [he2]
     clear he2
     go_wp2_with fail
     go_ret
     exact ⟨by rw [HEND.out.1,HE2.out];rfl,by rw [HEND.out.2];exact HP2.out⟩
    ·have y1:(e1==0)=false:=by rw [beq_eq_false_iff_ne];exact h0
     by_cases h8:e1=8
     ·subst h8
      have HEND:Hid (setE c n old new=13∧setC c n old new=c1):=HS.out
      clear HS h0 y1
      go_wp2_with fail
      go_ret
      exact ⟨by rw [HEND.out.1];rfl,by rw [HEND.out.2];exact HP1.out⟩
     ·have y8:(e1==8)=false:=by rw [beq_eq_false_iff_ne];exact h8
      have HEND:Hid (setE c n old new=e1∧setC c n old new=c1):=by have h:=HS.out;rwa [if_neg h0,if_neg h0,if_neg h8] at h
      clear HS h0 h8
      go_wp2_with fail
      go_ret
      exact ⟨by rw [HEND.out.1];rfl,by rw [HEND.out.2];exact HP1.out⟩
   ·obtain ⟨z2,z3⟩:=str_some ho
    obtain ⟨q,hq⟩:∃ t,validB old=t:=⟨_,rfl⟩
    have HQ:=Lib.hid hq
    have HO:=Lib.hid ho
    clear ho hq
    go_wp2_with fail
    refine (valid_any old q HQ.out w (by omega)).mono ?_
    rintro e w1 ⟨rfl,rfl⟩
    cases q with
    | false =>
     have HE:=Lib.hid (set_range (c:=c) (old:=old) (new:=new) HT.out (.inr ⟨HO.out,HQ.out⟩))
     go_wp2_with fail
     go_ret
     exact ⟨by rw [HE.out.1];rfl,by rw [HE.out.2];exact HRF.out⟩
    | true =>
     have HS:=KEY.out (.inr HQ.out)
     clear KEY
     go_wp2_with fail
     refine (lock_any n w hn).mono ?_
     rintro e w1 ⟨rfl,rfl⟩
     obtain ⟨wn,cap,hconv,hbn,hzn,hby⟩:=bytes_new w (new++[10]) (by simp;omega)
     have h65:(new++[10]).length=65:=by simp [valid_len HV.out]
     rw [h65] at hconv hby
     clear h65
     have HBN:=Lib.hid hbn
     have HBY:=Lib.hid hby
     obtain ⟨e1,he1⟩:∃ k,crtE c (lockP n) 1 (new++[10]) true=k:=⟨_,rfl⟩
     obtain ⟨c1,hc1⟩:∃ k,crtC c (lockP n) 1 (new++[10]) true=k:=⟨_,rfl⟩
     have HE1:=Lib.hid he1
     have HC1:=Lib.hid hc1
     have HG1:Hid (GoC c1 (i+1)):=by rw [← hc1];exact HG.out.crt _ _ _ _
     rw [he1,hc1] at HS
     clear hbn hzn hby he1 hc1
     go_wp2_with fail
     refine (create_any F M b c _ (lockP n) 1 (.slice (some ⟨w.heap.size,0,none⟩) 65 cap) (new++[10]) (fun k=>k=w.heap.size) wn (H.out.below HBN.out) (HG.out.ready (by omega)) HBY.out (fun k hk hm=>by have:=H.out.lt k hm;omega) (by rw [lockP_len];omega)).mono ?_
     rintro e w2 ⟨rfl,hp⟩
     rw [HC1.out] at hp
     have HP1:=Lib.hid (FcPost.of_below HBN.out hp)
     rw [HE1.out]
     clear hp hconv HBY
     by_cases h0:e1=0
     ·subst h0
      have HEND:Hid (setE c n old new=slE c1 n old∧setC c n old new=slC c1 n old):=HS.out
      obtain ⟨M1,g1,g2,g3⟩:=HP1.out
      have HA:=Lib.hid g1
      have HB:=Lib.hid g2
      have HC:=Lib.hid g3
      clear g1 g2 g3 HS
      go_wp2_with fail
      refine (sl_any _ M1 b c1 (i+1) n old w2 HA.out HG1.out (by omega) hn hol).mono ?_
      rintro e w3 ⟨rfl,hp⟩
      have HP2:=Lib.hid (FcPost.trans HB.out HC.out hp)
      clear hp HA HB HC
      obtain ⟨e2,he2⟩:∃ k,slE c1 n old=k:=⟨_,rfl⟩
      have HE2:=Lib.hid he2
      rw [he2]
      clear he2
      go_wp2_with fail
      go_ret
      exact ⟨by rw [HEND.out.1,HE2.out];rfl,by rw [HEND.out.2];exact HP2.out⟩
     ·have y1:(e1==0)=false:=by rw [beq_eq_false_iff_ne];exact h0
      by_cases h8:e1=8
      ·subst h8
       have HEND:Hid (setE c n old new=13∧setC c n old new=c1):=HS.out
       clear HS h0 y1
       go_wp2_with fail
       go_ret
       exact ⟨by rw [HEND.out.1];rfl,by rw [HEND.out.2];exact HP1.out⟩
      ·have y8:(e1==8)=false:=by rw [beq_eq_false_iff_ne];exact h8
       have HEND:Hid (setE c n old new=e1∧setC c n old new=c1):=by have h:=HS.out;rwa [if_neg h0,if_neg h0,if_neg h8] at h
       clear HS h0 h8
       go_wp2_with fail
       go_ret
       exact ⟨by rw [HEND.out.1];rfl,by rw [HEND.out.2];exact HP1.out⟩
end Go.Proofs.YtlkolcokjmlmjaaGreat.Tx
set_option linter.unusedVariables false
set_option linter.unusedSimpArgs false
namespace Go.Proofs.YtlkolcokjmlmjaaGreat.Tx
open Go.RowKit Go.Maps Go.Proofs.YtlkolcokjmlmjaaGreat.Sh
theorem trim_any (dir p:List UInt8) (w:World):Calls Tryz.prog 100 #[.string (Tx.str p),.string (Tx.str (dir++[47]))] w fun e w'=>e=.returned (.string (Tx.str (lastN dir p)))∧w=w':=by
 refine (Tryz.strings_TrimPrefix (str p) (str (dir++[47])) w).mono ?_
 rintro e w' ⟨rfl,rfl⟩
 refine ⟨?_,rfl⟩
 have e1:∀ x:List UInt8,(str x).data.toList=x:=fun x=>by unfold str;simp
 rw [e1,e1]
 unfold lastN Lib.trimPrefix Lib.hasPrefix str
 rw [List.length_append]
 rfl
theorem lis_short {c:CSt} {N:Nat} (h:CReady c N) (dir:List UInt8):(lisO c dir).length≤900000∧∀ p∈lisO c dir,p.length≤1000:=by
 have hs:=h.small
 unfold lisO
 split
 ·unfold listC
  refine ⟨?_,fun p hp=>?_⟩
  ·refine Nat.le_trans (List.length_filter_le _ _) ?_
   unfold pathsM
   rw [List.length_map]
   exact hs.here
  ·have hp:=(List.mem_filter.1 hp).1
   unfold pathsM at hp
   obtain ⟨r,hr,rfl⟩:=List.mem_map.1 hp
   exact (hs.hrow r hr).1
 ·exact ⟨by decide,fun p hp=>by cases hp⟩
theorem last_le (dir p:List UInt8):(lastN dir p).length≤p.length:=by
 unfold lastN
 split
 ·rw [List.length_drop];omega
 ·exact Nat.le_refl _
theorem nms_next {dir q:List UInt8} {l:List (List UInt8)} {k:Nat} (h:l[k]?=some q):nmsL dir (l.take (k+1))=nmsL dir (l.take k)++if nameB (lastN dir q)=true then [lastN dir q] else []:=by
 unfold nmsL
 rw [List.take_add_one,h,List.map_append,List.filter_append]
 congr 1
 show List.filter nameB [lastN dir q]=_
 rw [List.filter_cons]
 rfl
theorem nms_len (dir:List UInt8) (l:List (List UInt8)):(nmsL dir l).length≤l.length:=by
 unfold nmsL
 refine Nat.le_trans (List.length_filter_le _ _) ?_
 rw [List.length_map]
 exact Nat.le_refl _
def refD:List UInt8:=[115,47,114]
def lockD:List UInt8:=[115,47,108]
def ulkE (c:CSt):Int:=if lisE c lockD=0 then unlE (bgC c).c (rlsV c lockD) else lisE c lockD
def ulkC (c:CSt):CSt:=if lisE c lockD=0 then unlC (bgC c).c (rlsV c lockD) else (bgC c).c
def ulkN (c:CSt):Int:=if ulkE c=0 then ((rlsV c lockD).length:Int) else 0
theorem FcAt.grown {F M M1 M2:Nat→Prop} {w w1 w2:World} {b:Nat} {c2:CSt} (h01:Only M w w1) (hM:∀ k,M1 k→M k∨w.heap.size≤k) (h:FcAt (grow (grow F w w1 M1) w1 w2 M2) w2 b c2 M2) (h3:Only M1 w1 w2) (h4:∀ k,M2 k→M1 k∨w1.heap.size≤k):FcAt (grow F w w2 M2) w2 b c2 M2:=by
 obtain ⟨x,h1,h2⟩:=h
 refine ⟨x,h1.mono (F':=grow F w w2 M2) (fun k hk=>grow_grow h3.size h01.size h4 hk) (fun k hk hm=>?_) (fun k hk=>?_),h2⟩
 ·rcases hk with hk | ⟨_,_,g3⟩
  ·exact h1.self k (.inl (.inl hk)) hm
  ·exact g3 ((h2 k).2 hm)
 ·rcases hk with hk | ⟨_,g2,_⟩
  ·exact h1.low k (.inl (.inl hk))
  ·exact g2
def UInv (F M M1:Nat→Prop) (w w2:World) (b:Nat) (c:CSt) (wr:World):Prop :=
 ∃ Mk,FcAt (grow F w wr Mk) wr b c Mk∧Only M w wr∧(∀ q,Mk q→M q∨w.heap.size≤q)∧Only M1 w2 wr∧∀ q,Mk q→M1 q∨w2.heap.size≤q
theorem UInv.start {F M M1:Nat→Prop} {w w1 w2:World} {b:Nat} {c:CSt} (h:FcAt (grow F w w1 M1) w1 b c M1) (ho:Only M w w1) (hs:∀ q,M1 q→M q∨w.heap.size≤q) (hb:Below w1.heap.size w1 w2):UInv F M M1 w w2 b c w2:=by
 have hz:=hb.size
 obtain ⟨x,h1,h2⟩:=h.below hb
 refine ⟨M1,⟨x,h1.mono (F':=grow F w w2 M1) (fun k hk=>?_) (fun k hk hm=>?_) (fun k hk=>?_),h2⟩,ho.trans (Only.of_below (M:=fun _=>False) hb) (fun _ hk=>hk.elim),hs,Only.refl _ _,fun q hq=>.inl hq⟩
 ·rcases hk with hk | ⟨g1,g2,g3⟩
  ·exact .inl hk
  ·exact .inr ⟨g1,by omega,g3⟩
 ·rcases hk with hk | ⟨_,_,g3⟩
  ·exact h1.self k (.inl hk) hm
  ·exact g3 ((h2 k).2 hm)
 ·rcases hk with hk | ⟨_,g2,_⟩
  ·exact h1.low k (.inl hk)
  ·exact g2
theorem UInv.step {F M M1 Mk:Nat→Prop} {w w2 wr wn:World} {b:Nat} {c':CSt} (g2:Only M w wr) (g3:∀ q,Mk q→M q∨w.heap.size≤q) (g4:Only M1 w2 wr) (g5:∀ q,Mk q→M1 q∨w2.heap.size≤q) (hp:FcPost (grow F w wr Mk) Mk wr b c' wn):UInv F M M1 w w2 b c' wn:=by
 obtain ⟨Mn,h1,h2,h3⟩:=hp
 have hz:=g2.size
 have hz2:=g4.size
 refine ⟨Mn,FcAt.grown g2 g3 h1 h2 h3,g2.trans h2 g3,fun q hq=>?_,g4.trans h2 g5,fun q hq=>?_⟩
 ·rcases h3 q hq with h | h
  ·exact g3 q h
  ·right;omega
 ·rcases h3 q hq with h | h
  ·exact g5 q h
  ·right;omega
theorem UInv.post {F M M1:Nat→Prop} {w w2 wr:World} {b:Nat} {c:CSt} (h:UInv F M M1 w w2 b c wr):FcPost F M w b c wr:=by
 obtain ⟨Mk,h1,h2,h3,_⟩:=h
 exact ⟨Mk,h1,h2,h3⟩
theorem unl_drop {c:CSt} {l:List (List UInt8)} {k:Nat} {n:List UInt8} (h:l[k]?=some n):unlE c (l.drop k)=(if remE c (lockP n)=0 then unlE (remC c (lockP n)) (l.drop (k+1)) else remE c (lockP n))∧unlC c (l.drop k)=(if remE c (lockP n)=0 then unlC (remC c (lockP n)) (l.drop (k+1)) else remC c (lockP n)):=by
 obtain ⟨hk,rfl⟩:=List.getElem?_eq_some_iff.1 h
 rw [List.drop_eq_getElem_cons hk]
 exact ⟨rfl,rfl⟩
end Go.Proofs.YtlkolcokjmlmjaaGreat.Tx
