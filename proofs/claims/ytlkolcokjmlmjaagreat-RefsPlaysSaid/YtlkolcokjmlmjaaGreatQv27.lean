/- Texts put together: VShW10, VShW11, VShW12, VShW13, VShW14, VShL0, VShU0. -/
import Derived.Test.YtlkolcokjmlmjaaGreatQv26
import Derived.Laws.BytesString
import Derived.ShutString
import Derived.ChangeOld
namespace Go.Proofs.YtlkolcokjmlmjaaGreat.Sh
open Go.RowKit
set_option maxRecDepth 100000 in
set_option maxHeartbeats 800000 in
theorem write_fill (b : Nat) (all bs : List UInt8) (A : Option Addr) (cap : Nat) (w : World) (h : HH w b all) (hs : Src w b A bs) (hlc : bs.length ≤ cap) (hcm : cap ≤ maxLen) (hn : all.length + bs.length < 2 ^ 60) (h0 : 0 < all.length % 64) (h1 : 64 ≤ all.length % 64 + bs.length) :
  Calls Tryz.prog 120 #[.pointer (some ⟨b,0,none⟩),.slice A bs.length cap] w fun e w'=>e=.returned (.tuple #[])∧HH w' b (all++bs)∧w.grownBy w' (some b):=by
 unfold maxLen at hcm
 obtain ⟨s,rest,d,ad,hB,hm,hst,hta⟩:=h
 have hbl:=hB.lt
 obtain ⟨n,hN⟩:∃ n,all.length=n:=⟨_,rfl⟩
 obtain ⟨l,hL⟩:∃ l,bs.length=l:=⟨_,rfl⟩
 rw [hN] at hB h0 hta hn h1
 rw [hL] at hlc hn h1 ⊢
 have HST:=Lib.hid hst
 have HTA:=Lib.hid hta
 have HB0:=Lib.hid hB
 have HNE:=Lib.hid hN
 have HLE:=Lib.hid hL
 have HS:=Lib.hid hs
 clear hst hta hB hN hL hs
 obtain ⟨r,hr⟩:∃ r,n % 64=r:=⟨_,rfl⟩
 rw [hr] at h0 h1
 have HR:=Lib.hid hr
 have hr64:r<64:=by omega
 have e1:(n:Int).tmod 64=(r:Int):=by rw [Int.tmod_eq_emod_of_nonneg (by omega)];omega
 have e2:(n:Int) % 64=(r:Int):=by omega
 have e3:(0:Int)<(r:Int):=by omega
 have e4:(r:Int)≤64:=by omega
 have hrest:rest.length=64:=HB0.out.2.1
 clear hr
 have e5:¬ (r:Int)+((64 - r:Nat):Int)<64:=by omega
 obtain ⟨k,hkd⟩:∃ k,64 - r=k:=⟨_,rfl⟩
 have hrk:r+k=64:=by omega
 have e6:(r:Int)+(k:Int)=64:=by omega
 have hk:k=Nat.min l (64 - r):=by rw [← hkd];exact (Nat.min_eq_right (a:=l) (b:=64 - r) (by omega)).symm
 have HKK:=Lib.hid hk
 have HKD:=Lib.hid hkd
 have E6:=Lib.hid e6
 clear hk hkd e5 e6
 have hf:r+k≤64:=by omega
 have hkl:k≤l:=by omega
 have hFl:Hid (splice rest r (bs.take k)=tail64 all++bs.take k):=by
  unfold Hid splice
  rw [← HTA.out,HR.out,List.drop_eq_nil_of_le (by rw [List.length_take,HLE.out];omega),List.append_nil]
 go_enter Tryz.func120,Tryz.ntmps120
 go_wp2_with fail
 refine (constants_any b s rest n d ad _ HB0.out hm).mono ?_
 rintro e w1 ⟨rfl,hB1,hg1⟩
 have hsz:=hB1.size_
 have hfz:=hB1.frozen_ 72
 have HB1:=Lib.hid hB1
 have HG1:=Lib.hid hg1
 clear hB1 hg1
 have hB2:HB (w1.setCell ⟨b,72,none⟩ (.int .i64 ((n:Int)+(l:Int)))) b s rest (n+l) 1 0 kv:=HB1.out.setSize (n+l)
 have hg2:w.grownBy (w1.setCell ⟨b,72,none⟩ (.int .i64 ((n:Int)+(l:Int)))) (some b):=only_setCell HG1.out (.inl rfl) _
 have hS2:Src (w1.setCell ⟨b,72,none⟩ (.int .i64 ((n:Int)+(l:Int)))) b A bs:=HS.out.only hg2
 have HB2:=Lib.hid hB2
 have HG2:=Lib.hid hg2
 have HS2:=Lib.hid hS2
 clear hB2 hg2 hS2
 go_wp2_with (refine copy_rest rfl (.tmp 29) (.tmp 30) rfl b s rest (n+l) 1 0 kv HB2.out r (64 - r) (64 - r) rfl A l cap bs HLE.out rfl HS2.out k HKK.out hf ?_;intro w6 hB6 hg6;rw [hFl.out] at hB6;have E66:=E6.out)
 obtain ⟨F,hF⟩:∃ F,tail64 all++bs.take k=F:=⟨_,rfl⟩
 rw [hF] at hB6
 have HF:=Lib.hid hF
 have hFlen:F.length=64:=hB6.2.1
 obtain ⟨x0,x1,x2,x3,x4,x5,x6,x7⟩:=hB6.scells
 obtain ⟨z0,z1,z2,z3,z4,z5,z6,z7⟩:=hB6.sfrozen
 have hbw:b<w6.heap.size:=hB6.lt
 have F4:=Lib.hid (fun j (hj:j<64)=>hB6.added_ j hj)
 have F2:=Lib.hid (show ∀ i,i<64→w6.cell? ((⟨b,8,none⟩:Addr).add i)=some (.int .u8 (bi (F.getD i 0))) from fun i hi=>by
  rw [Addr.add_mid];exact hB6.rest_ i hi)
 have HB6:=Lib.hid hB6
 have HG6:=Lib.hid hg6
 clear hF hB6 hg6
 go_wp2_with fail
 go_region_with (go_at_call 148;refine (fold_agg s ⟨b,8,none⟩ 64 F b 76 _ (by omega) (by unfold maxLen;omega) (by exact hbw) (by exact F2.out) (by exact hbw) (by exact F4.out)).mono ?_;rintro e w5 ⟨t,HT,rfl,hb5⟩;have y0:=(hb5.cell (p:=⟨b,0,none⟩) hbw).trans x0;have y1:=(hb5.cell (p:=⟨b,1,none⟩) hbw).trans x1;have y2:=(hb5.cell (p:=⟨b,2,none⟩) hbw).trans x2;have y3:=(hb5.cell (p:=⟨b,3,none⟩) hbw).trans x3;have y4:=(hb5.cell (p:=⟨b,4,none⟩) hbw).trans x4;have y5:=(hb5.cell (p:=⟨b,5,none⟩) hbw).trans x5;have y6:=(hb5.cell (p:=⟨b,6,none⟩) hbw).trans x6;have y7:=(hb5.cell (p:=⟨b,7,none⟩) hbw).trans x7;have q0:=(hb5.frozen (p:=⟨b,0,none⟩) hbw).trans z0;have q1:=(hb5.frozen (p:=⟨b,1,none⟩) hbw).trans z1;have q2:=(hb5.frozen (p:=⟨b,2,none⟩) hbw).trans z2;have q3:=(hb5.frozen (p:=⟨b,3,none⟩) hbw).trans z3;have q4:=(hb5.frozen (p:=⟨b,4,none⟩) hbw).trans z4;have q5:=(hb5.frozen (p:=⟨b,5,none⟩) hbw).trans z5;have q6:=(hb5.frozen (p:=⟨b,6,none⟩) hbw).trans z6;have q7:=(hb5.frozen (p:=⟨b,7,none⟩) hbw).trans z7)
 have k1:=((HB6.out.drew).below hb5 hbw).set8 t
 have k2:=only8 (only_of_below hb5 (some b)) (.int .u32 (wi t.a)) (.int .u32 (wi t.b)) (.int .u32 (wi t.c)) (.int .u32 (wi t.d)) (.int .u32 (wi t.e)) (.int .u32 (wi t.f)) (.int .u32 (wi t.g)) (.int .u32 (wi t.h))
 clear y0 y1 y2 y3 y4 y5 y6 y7 q0 q1 q2 q3 q4 q5 q6 q7 x0 x1 x2 x3 x4 x5 x6 x7 z0 z1 z2 z3 z4 z5 z6 z7
 generalize ((((((((w5.setCell ⟨b,0,none⟩ (.int .u32 (wi t.a))).setCell ⟨b,1,none⟩ (.int .u32 (wi t.b))).setCell ⟨b,2,none⟩ (.int .u32 (wi t.c))).setCell ⟨b,3,none⟩ (.int .u32 (wi t.d))).setCell ⟨b,4,none⟩ (.int .u32 (wi t.e))).setCell ⟨b,5,none⟩ (.int .u32 (wi t.f))).setCell ⟨b,6,none⟩ (.int .u32 (wi t.g))).setCell ⟨b,7,none⟩ (.int .u32 (wi t.h)))=w8 at *
 have ht:t=full (all++bs.take k):=by
  rw [full_block all (bs.take k) (by rw [← List.length_append,HF.out];exact hFlen),HF.out,HT.out,HST.out]
 rw [ht] at k1
 have k4:(all++bs.take k).length % 64=0:=by rw [List.length_append,List.length_take,HNE.out,HLE.out];have:=HR.out;omega
 have hgw:w6.grownBy w8 (some b):=only_then (only_drew (World.grownBy.refl w6 _)) k2
 have k5:Src w8 b A bs:=(HS2.out.only HG6.out).only hgw
 have k6:w.grownBy w8 (some b):=only_then HG2.out (only_then HG6.out hgw)
 have k7:(bs.drop k).length=l - k:=by rw [List.length_drop,HLE.out]
 have k3:all++bs.take k++bs.drop k=all++bs:=by rw [List.append_assoc,List.take_append_drop]
 obtain ⟨adr,hA,_⟩:=k5 (by rw [HLE.out];omega)
 subst hA
 have K1:=Lib.hid k1
 have K3:=Lib.hid k3
 have K4:=Lib.hid k4
 have K5:=Lib.hid k5
 have K6:=Lib.hid k6
 have K7:=Lib.hid k7
 clear k1 k2 k3 k4 k5 k6 k7 ht hb5 hgw
 by_cases hcc:cap=k
 ·have hlk:l=k:=by omega
  have HLK:=Lib.hid hlk
  go_wp2_with fail
  clear hcc hlk E66
  go_loopw [1] (fun v wr=>∃ (P R X:List UInt8) (A1:Option Addr) (c:Nat),v=.slice A1 R.length c∧R.length≤c∧c≤cap∧P++R=all++bs∧P.length % 64=0∧HB wr b (full P) X (n+l) 1 0 kv∧Src wr b A1 R∧w.grownBy wr (some b)) (fun v _=>lenOf v)
  case atStart =>
   exact ⟨all++bs.take k,bs.drop k,F,some adr,0,by rw [K7.out,show l - k=0 from by have:=HLK.out;omega],by rw [K7.out];have:=HLK.out;omega,by omega,K3.out,K4.out,K1.out,fun h=>absurd h (by rw [K7.out];have:=HLK.out;omega),K6.out⟩
  case round =>
   obtain ⟨P,R,X,A1,c,rfl,hRc,hccap,hPR,hP,hHB,hSrc,hG⟩:=hrel
   obtain ⟨M,hM⟩:∃ M,R.length=M:=⟨_,rfl⟩
   rw [hM] at hRc ⊢
   have HM:=Lib.hid hM
   have HPR:=Lib.hid hPR
   have HP:=Lib.hid hP
   have HHBr:=Lib.hid hHB
   have HG:=Lib.hid hG
   have HSr:=Lib.hid hSrc
   clear hM hPR hP hG hSrc
   by_cases hlt:64≤M
   ·obtain ⟨adr,rfl,hne,hltb,hcell⟩:=HSr.out (by rw [HM.out];omega)
    obtain ⟨x0,x1,x2,x3,x4,x5,x6,x7⟩:=hHB.scells
    obtain ⟨z0,z1,z2,z3,z4,z5,z6,z7⟩:=hHB.sfrozen
    have hbw:b<wr.heap.size:=hHB.lt
    have F4:=Lib.hid (fun j (hj:j<64)=>hHB.added_ j hj)
    have F2:=Lib.hid (show ∀ i,i<64→wr.cell? (adr.add i)=some (.int .u8 (bi ((R.take 64).getD i 0))) from fun i hi=>by
     rw [hcell i (by rw [HM.out];omega)]
     simp only [List.getD_eq_getElem?_getD,List.getElem?_take,if_pos hi])
    obtain ⟨s0,hs0⟩:∃ s0,full P=s0:=⟨_,rfl⟩
    rw [hs0] at x0 x1 x2 x3 x4 x5 x6 x7
    have HS0:=Lib.hid hs0
    clear hHB hcell hs0
    have hj1:(64:Int)≤(M:Int):=by omega
    have hj2:(64:Int)≤(c:Int):=by omega
    go_wp2_with fail
    go_region_with (go_at_call 148;refine (fold_agg s0 adr c (R.take 64) b 76 _ (by omega) (by unfold maxLen;omega) (by exact hltb) (by exact F2.out) (by exact hbw) (by exact F4.out)).mono ?_;rintro e w5 ⟨t,HT,rfl,hb5⟩;have y0:=(hb5.cell (p:=⟨b,0,none⟩) hbw).trans x0;have y1:=(hb5.cell (p:=⟨b,1,none⟩) hbw).trans x1;have y2:=(hb5.cell (p:=⟨b,2,none⟩) hbw).trans x2;have y3:=(hb5.cell (p:=⟨b,3,none⟩) hbw).trans x3;have y4:=(hb5.cell (p:=⟨b,4,none⟩) hbw).trans x4;have y5:=(hb5.cell (p:=⟨b,5,none⟩) hbw).trans x5;have y6:=(hb5.cell (p:=⟨b,6,none⟩) hbw).trans x6;have y7:=(hb5.cell (p:=⟨b,7,none⟩) hbw).trans x7;have q0:=(hb5.frozen (p:=⟨b,0,none⟩) hbw).trans z0;have q1:=(hb5.frozen (p:=⟨b,1,none⟩) hbw).trans z1;have q2:=(hb5.frozen (p:=⟨b,2,none⟩) hbw).trans z2;have q3:=(hb5.frozen (p:=⟨b,3,none⟩) hbw).trans z3;have q4:=(hb5.frozen (p:=⟨b,4,none⟩) hbw).trans z4;have q5:=(hb5.frozen (p:=⟨b,5,none⟩) hbw).trans z5;have q6:=(hb5.frozen (p:=⟨b,6,none⟩) hbw).trans z6;have q7:=(hb5.frozen (p:=⟨b,7,none⟩) hbw).trans z7)
    have k1:=((HHBr.out.drew).below hb5 hbw).set8 t
    have k2:=only8 (only_of_below hb5 (some b)) (.int .u32 (wi t.a)) (.int .u32 (wi t.b)) (.int .u32 (wi t.c)) (.int .u32 (wi t.d)) (.int .u32 (wi t.e)) (.int .u32 (wi t.f)) (.int .u32 (wi t.g)) (.int .u32 (wi t.h))
    clear y0 y1 y2 y3 y4 y5 y6 y7 q0 q1 q2 q3 q4 q5 q6 q7 x0 x1 x2 x3 x4 x5 x6 x7 z0 z1 z2 z3 z4 z5 z6 z7
    generalize ((((((((w5.setCell ⟨b,0,none⟩ (.int .u32 (wi t.a))).setCell ⟨b,1,none⟩ (.int .u32 (wi t.b))).setCell ⟨b,2,none⟩ (.int .u32 (wi t.c))).setCell ⟨b,3,none⟩ (.int .u32 (wi t.d))).setCell ⟨b,4,none⟩ (.int .u32 (wi t.e))).setCell ⟨b,5,none⟩ (.int .u32 (wi t.f))).setCell ⟨b,6,none⟩ (.int .u32 (wi t.g))).setCell ⟨b,7,none⟩ (.int .u32 (wi t.h)))=w8 at *
    have ht:t=full (P++R.take 64):=by
     have hpl:=tail64_none P HP.out
     rw [full_block P (R.take 64) (by rw [hpl,List.length_take,HM.out];simp;omega),hpl,HT.out,HS0.out]
     rfl
    rw [ht] at k1
    have k3:P++R.take 64++R.drop 64=all++bs:=by rw [List.append_assoc,List.take_append_drop];exact HPR.out
    have k4:(P++R.take 64).length % 64=0:=by rw [List.length_append,List.length_take,HM.out];have:=HP.out;omega
    have k5:Src w8 b (some adr) R:=HSr.out.only (only_then (only_drew (World.grownBy.refl wr _)) k2)
    have k6:w.grownBy w8 (some b):=only_then HG.out (only_then (only_drew (World.grownBy.refl wr _)) k2)
    have k7:(R.drop 64).length=M - 64:=by rw [List.length_drop,HM.out]
    have K1:=Lib.hid k1
    have K3:=Lib.hid k3
    have K4:=Lib.hid k4
    have K5:=Lib.hid k5
    have K6:=Lib.hid k6
    have K7:=Lib.hid k7
    clear k1 k2 k3 k4 k5 k6 k7 ht hb5
    by_cases hcc:c=64
    ·have hM':M=64:=by omega
     subst hcc
     go_wp2_with fail
     go_roundw
     case rel =>
      exact ⟨P++R.take 64,R.drop 64,X,some adr,0,by rw [K7.out,hM'],by rw [K7.out];omega,by omega,K3.out,K4.out,K1.out,fun h=>absurd h (by rw [K7.out];omega),K6.out⟩
     case measure=>simp [lenOf];omega
    ·go_wp2_with fail
     go_roundw
     case rel =>
      exact ⟨P++R.take 64,R.drop 64,X,some (adr.add 64),c - 64,by rw [K7.out,add_at _ _ (by omega)],by rw [K7.out];omega,by omega,K3.out,K4.out,K1.out,K5.out.cut 64 _ (fun _ a e=>by injection e with e;rw [e]),K6.out⟩
     case measure=>simp [lenOf];omega
   ·have hHB':=Lib.hid hHB
    clear hHB
    have hMM:M=Nat.min M 64:=(Nat.min_eq_left (a:=M) (b:=64) (by omega)).symm
    have HMM:=Lib.hid hMM
    clear hMM
    have hM0:0+M≤64:=by omega
    go_wp2_with (refine copy_rest rfl (.tmp 71) (.tmp 72) rfl b (full P) X (n+l) 1 0 kv hHB'.out 0 64 64 rfl A1 M c R HM.out rfl HSr.out M HMM.out hM0 ?_;intro w6 hB6 hg6)
    go_end0
    have hPl:=HP.out
    have hlen:(P++R).length=n+l:=by rw [HPR.out,List.length_append,HNE.out,HLE.out]
    have hlen2:P.length+M=n+l:=by rw [← hlen,List.length_append,HM.out]
    have hsh:(P++R).length / 64=P.length / 64:=by rw [hlen];omega
    refine ⟨rfl,⟨full P,splice X 0 (R.take M),1,kv,?_,.inr ⟨rfl,rfl⟩,?_,?_⟩,only_then HG.out hg6⟩
    ·rw [← HPR.out,hlen];exact hB6
    ·rw [← HPR.out,full_short _ _ hsh]
    ·rw [← HPR.out,hlen,tail64_short _ _ hsh,tail64_none _ hPl,show (n+l) % 64=M from by omega]
     unfold splice
     rw [List.take_of_length_le (l:=R) (by rw [HM.out];omega),List.take_zero,List.nil_append,List.nil_append,List.take_append_of_le_length (by rw [HM.out];omega),List.take_of_length_le (by rw [HM.out];omega)]
 ·go_wp2_with fail
  clear hcc E66
  go_loopw [1] (fun v wr=>∃ (P R X:List UInt8) (A1:Option Addr) (c:Nat),v=.slice A1 R.length c∧R.length≤c∧c≤cap∧P++R=all++bs∧P.length % 64=0∧HB wr b (full P) X (n+l) 1 0 kv∧Src wr b A1 R∧w.grownBy wr (some b)) (fun v _=>lenOf v)
  case atStart =>
   exact ⟨all++bs.take k,bs.drop k,F,some (adr.add k),cap - k,by rw [K7.out],by rw [K7.out];omega,by omega,K3.out,K4.out,K1.out,K5.out.cut k _ (fun _ a e=>by injection e with e;rw [e]),K6.out⟩
  case round =>
   obtain ⟨P,R,X,A1,c,rfl,hRc,hccap,hPR,hP,hHB,hSrc,hG⟩:=hrel
   obtain ⟨M,hM⟩:∃ M,R.length=M:=⟨_,rfl⟩
   rw [hM] at hRc ⊢
   have HM:=Lib.hid hM
   have HPR:=Lib.hid hPR
   have HP:=Lib.hid hP
   have HHBr:=Lib.hid hHB
   have HG:=Lib.hid hG
   have HSr:=Lib.hid hSrc
   clear hM hPR hP hG hSrc
   by_cases hlt:64≤M
   ·obtain ⟨adr,rfl,hne,hltb,hcell⟩:=HSr.out (by rw [HM.out];omega)
    obtain ⟨x0,x1,x2,x3,x4,x5,x6,x7⟩:=hHB.scells
    obtain ⟨z0,z1,z2,z3,z4,z5,z6,z7⟩:=hHB.sfrozen
    have hbw:b<wr.heap.size:=hHB.lt
    have F4:=Lib.hid (fun j (hj:j<64)=>hHB.added_ j hj)
    have F2:=Lib.hid (show ∀ i,i<64→wr.cell? (adr.add i)=some (.int .u8 (bi ((R.take 64).getD i 0))) from fun i hi=>by
     rw [hcell i (by rw [HM.out];omega)]
     simp only [List.getD_eq_getElem?_getD,List.getElem?_take,if_pos hi])
    obtain ⟨s0,hs0⟩:∃ s0,full P=s0:=⟨_,rfl⟩
    rw [hs0] at x0 x1 x2 x3 x4 x5 x6 x7
    have HS0:=Lib.hid hs0
    clear hHB hcell hs0
    have hj1:(64:Int)≤(M:Int):=by omega
    have hj2:(64:Int)≤(c:Int):=by omega
    go_wp2_with fail
    go_region_with (go_at_call 148;refine (fold_agg s0 adr c (R.take 64) b 76 _ (by omega) (by unfold maxLen;omega) (by exact hltb) (by exact F2.out) (by exact hbw) (by exact F4.out)).mono ?_;rintro e w5 ⟨t,HT,rfl,hb5⟩;have y0:=(hb5.cell (p:=⟨b,0,none⟩) hbw).trans x0;have y1:=(hb5.cell (p:=⟨b,1,none⟩) hbw).trans x1;have y2:=(hb5.cell (p:=⟨b,2,none⟩) hbw).trans x2;have y3:=(hb5.cell (p:=⟨b,3,none⟩) hbw).trans x3;have y4:=(hb5.cell (p:=⟨b,4,none⟩) hbw).trans x4;have y5:=(hb5.cell (p:=⟨b,5,none⟩) hbw).trans x5;have y6:=(hb5.cell (p:=⟨b,6,none⟩) hbw).trans x6;have y7:=(hb5.cell (p:=⟨b,7,none⟩) hbw).trans x7;have q0:=(hb5.frozen (p:=⟨b,0,none⟩) hbw).trans z0;have q1:=(hb5.frozen (p:=⟨b,1,none⟩) hbw).trans z1;have q2:=(hb5.frozen (p:=⟨b,2,none⟩) hbw).trans z2;have q3:=(hb5.frozen (p:=⟨b,3,none⟩) hbw).trans z3;have q4:=(hb5.frozen (p:=⟨b,4,none⟩) hbw).trans z4;have q5:=(hb5.frozen (p:=⟨b,5,none⟩) hbw).trans z5;have q6:=(hb5.frozen (p:=⟨b,6,none⟩) hbw).trans z6;have q7:=(hb5.frozen (p:=⟨b,7,none⟩) hbw).trans z7)
    have k1:=((HHBr.out.drew).below hb5 hbw).set8 t
    have k2:=only8 (only_of_below hb5 (some b)) (.int .u32 (wi t.a)) (.int .u32 (wi t.b)) (.int .u32 (wi t.c)) (.int .u32 (wi t.d)) (.int .u32 (wi t.e)) (.int .u32 (wi t.f)) (.int .u32 (wi t.g)) (.int .u32 (wi t.h))
    clear y0 y1 y2 y3 y4 y5 y6 y7 q0 q1 q2 q3 q4 q5 q6 q7 x0 x1 x2 x3 x4 x5 x6 x7 z0 z1 z2 z3 z4 z5 z6 z7
    generalize ((((((((w5.setCell ⟨b,0,none⟩ (.int .u32 (wi t.a))).setCell ⟨b,1,none⟩ (.int .u32 (wi t.b))).setCell ⟨b,2,none⟩ (.int .u32 (wi t.c))).setCell ⟨b,3,none⟩ (.int .u32 (wi t.d))).setCell ⟨b,4,none⟩ (.int .u32 (wi t.e))).setCell ⟨b,5,none⟩ (.int .u32 (wi t.f))).setCell ⟨b,6,none⟩ (.int .u32 (wi t.g))).setCell ⟨b,7,none⟩ (.int .u32 (wi t.h)))=w8 at *
    have ht:t=full (P++R.take 64):=by
     have hpl:=tail64_none P HP.out
     rw [full_block P (R.take 64) (by rw [hpl,List.length_take,HM.out];simp;omega),hpl,HT.out,HS0.out]
     rfl
    rw [ht] at k1
    have k3:P++R.take 64++R.drop 64=all++bs:=by rw [List.append_assoc,List.take_append_drop];exact HPR.out
    have k4:(P++R.take 64).length % 64=0:=by rw [List.length_append,List.length_take,HM.out];have:=HP.out;omega
    have k5:Src w8 b (some adr) R:=HSr.out.only (only_then (only_drew (World.grownBy.refl wr _)) k2)
    have k6:w.grownBy w8 (some b):=only_then HG.out (only_then (only_drew (World.grownBy.refl wr _)) k2)
    have k7:(R.drop 64).length=M - 64:=by rw [List.length_drop,HM.out]
    have K1:=Lib.hid k1
    have K3:=Lib.hid k3
    have K4:=Lib.hid k4
    have K5:=Lib.hid k5
    have K6:=Lib.hid k6
    have K7:=Lib.hid k7
    clear k1 k2 k3 k4 k5 k6 k7 ht hb5
    by_cases hcc:c=64
    ·have hM':M=64:=by omega
     subst hcc
     go_wp2_with fail
     go_roundw
     case rel =>
      exact ⟨P++R.take 64,R.drop 64,X,some adr,0,by rw [K7.out,hM'],by rw [K7.out];omega,by omega,K3.out,K4.out,K1.out,fun h=>absurd h (by rw [K7.out];omega),K6.out⟩
     case measure=>simp [lenOf];omega
    ·go_wp2_with fail
     go_roundw
     case rel =>
      exact ⟨P++R.take 64,R.drop 64,X,some (adr.add 64),c - 64,by rw [K7.out,add_at _ _ (by omega)],by rw [K7.out];omega,by omega,K3.out,K4.out,K1.out,K5.out.cut 64 _ (fun _ a e=>by injection e with e;rw [e]),K6.out⟩
     case measure=>simp [lenOf];omega
   ·have hHB':=Lib.hid hHB
    clear hHB
    have hMM:M=Nat.min M 64:=(Nat.min_eq_left (a:=M) (b:=64) (by omega)).symm
    have HMM:=Lib.hid hMM
    clear hMM
    have hM0:0+M≤64:=by omega
    go_wp2_with (refine copy_rest rfl (.tmp 71) (.tmp 72) rfl b (full P) X (n+l) 1 0 kv hHB'.out 0 64 64 rfl A1 M c R HM.out rfl HSr.out M HMM.out hM0 ?_;intro w6 hB6 hg6)
    go_end0
    have hPl:=HP.out
    have hlen:(P++R).length=n+l:=by rw [HPR.out,List.length_append,HNE.out,HLE.out]
    have hlen2:P.length+M=n+l:=by rw [← hlen,List.length_append,HM.out]
    have hsh:(P++R).length / 64=P.length / 64:=by rw [hlen];omega
    refine ⟨rfl,⟨full P,splice X 0 (R.take M),1,kv,?_,.inr ⟨rfl,rfl⟩,?_,?_⟩,only_then HG.out hg6⟩
    ·rw [← HPR.out,hlen];exact hB6
    ·rw [← HPR.out,full_short _ _ hsh]
    ·rw [← HPR.out,hlen,tail64_short _ _ hsh,tail64_none _ hPl,show (n+l) % 64=M from by omega]
     unfold splice
     rw [List.take_of_length_le (l:=R) (by rw [HM.out];omega),List.take_zero,List.nil_append,List.nil_append,List.take_append_of_le_length (by rw [HM.out];omega),List.take_of_length_le (by rw [HM.out];omega)]
end Go.Proofs.YtlkolcokjmlmjaaGreat.Sh
namespace Go.Proofs.YtlkolcokjmlmjaaGreat.Sh
open Go.RowKit
theorem write_any (b : Nat) (all bs : List UInt8) (A : Option Addr) (cap : Nat) (w : World) (h : HH w b all) (hs : Src w b A bs) (hlc : bs.length ≤ cap) (hcm : cap ≤ maxLen) (hn : all.length + bs.length < 2 ^ 60) :
  Calls Tryz.prog 120 #[.pointer (some ⟨b,0,none⟩),.slice A bs.length cap] w fun e w'=>e=.returned (.tuple #[])∧HH w' b (all++bs)∧w.grownBy w' (some b):=by
 by_cases h0:all.length % 64=0
 ·exact write_zero b all bs A cap w h hs hlc hcm hn h0
 ·by_cases h1:all.length % 64+bs.length<64
  ·exact write_few b all bs A cap w h hs hlc hcm hn (by omega) h1
  ·exact write_fill b all bs A cap w h hs hlc hcm hn (by omega) (by omega)
def HSum (b:Nat) (all:List UInt8) (w:World) (e:Ending) (w':World):Prop :=
 ∃ v,e=.returned v∧Own w' w.heap.size v (sumOf all)∧HH w' b all∧w.grownBy w' (some b)
theorem hsum_any (b:Nat) (all:List UInt8) (w:World) (h:HH w b all) (hn:all.length<2 ^ 60):Calls Tryz.prog 121 #[.pointer (some ⟨b,0,none⟩)] w (HSum b all w):=by
 obtain ⟨s,rest,d,ad,hB,hm,hst,hta⟩:=h
 refine (sum_any b s rest all.length d ad w hB hm hn).mono ?_
 rintro e w' ⟨v,he,ho,hB',hg⟩
 refine ⟨v,he,?_,⟨s,rest,1,kv,hB',.inr ⟨rfl,rfl⟩,hst,hta⟩,hg⟩
 rw [sumOf_eq,← hst,← hta]
 exact ho
theorem new_hh {w:World} {e:Ending} {w':World} (h:NewPost w e w'):∃ b,e=.returned (.pointer (some ⟨b,0,none⟩))∧HH w' b []∧w.heap.size≤b∧Below w.heap.size w w':=by
 obtain ⟨b,ad,he,hB,hb,hw⟩:=h
 refine ⟨b,he,⟨St.first,_,0,ad,hB,.inl rfl,?_,?_⟩,hb,hw⟩
 ·rw [full_eq];exact (blocks_zero _ _).symm
 ·rfl
def In (w:World) (A:Option Addr) (bs:List UInt8):Prop :=
 0<bs.length→∃ ad,A=some ad∧ad.block<w.heap.size∧∀ j,j<bs.length→w.cell? (ad.add j)=some (.int .u8 (bi (bs.getD j 0)))
theorem In.src {w w':World} {A:Option Addr} {bs:List UInt8} (h:In w A bs) (hb:Below w.heap.size w w') {b:Nat} (hbb:w.heap.size≤b):Src w' b A bs:=by
 intro h0
 obtain ⟨ad,hA,hlt,hc⟩:=h h0
 exact ⟨ad,hA,by omega,Nat.lt_of_lt_of_le hlt hb.size,fun j hj=>(hb.cell (p:=ad.add j) (by rw [block_of_add];exact hlt)).trans (hc j hj)⟩
theorem Own.in_ {w:World} {B:Nat} {v:Value} {bs:List UInt8} (h:Own w B v bs):∃ A c,v=.slice A bs.length c∧bs.length≤c∧c≤maxLen∧In w A bs∧(0<bs.length→∃ g,A=some ⟨g,0,none⟩∧B≤g∧g<w.heap.size):=by
 rcases h.2 with ⟨rfl,h0⟩ | ⟨g,cap,cur,rfl,hb,hg,hc,hm,hcs,htk⟩
 ·exact ⟨none,0,by rw [h0],by omega,by unfold maxLen;omega,fun h1=>by omega,fun h1=>by omega⟩
 ·have hlt:g<w.heap.size:=(Array.getElem?_eq_some_iff.1 hg).1
  refine ⟨some ⟨g,0,none⟩,cap,rfl,hc,hm,fun _=>⟨_,rfl,hlt,fun j hj=>?_⟩,fun _=>⟨g,rfl,hb,hlt⟩⟩
  rw [Addr.add_mid,cell_of_row _ _ _ _ _ _ hg,Nat.zero_add]
  have:(cur.toList.take (bs.length*1))[j]?=(bs.map bv)[j]?:=by rw [htk]
  rw [List.getElem?_take,if_pos (by omega),List.getElem?_map,List.getElem?_eq_getElem hj] at this
  rw [List.getD_eq_getElem?_getD,List.getElem?_eq_getElem hj]
  simpa [bv] using this
def OwnPost (w:World) (bs:List UInt8) (e:Ending) (w':World):Prop:=∃ v,e=.returned v∧Own w' w.heap.size v bs∧Below w.heap.size w w'
set_option maxRecDepth 100000 in
set_option maxHeartbeats 800000 in
theorem ssum_any (A : Option Addr) (bs : List UInt8) (cap : Nat) (w : World) (h : In w A bs) (hlc : bs.length ≤ cap) (hcm : cap ≤ maxLen) (hn : bs.length < 2 ^ 60) :
  Calls Tryz.prog 84 #[.slice A bs.length cap] w (OwnPost w (sumOf bs)):=by
 have HI:=Lib.hid h
 obtain ⟨l,hl⟩:∃ l,bs.length=l:=⟨_,rfl⟩
 have HL:=Lib.hid hl
 rw [hl]
 clear h hl
 go_enter Tryz.func84,Tryz.ntmps84
 go_wp2_with fail
 refine (new_any _).mono ?_
 intro e w1 hnew
 obtain ⟨b,rfl,hH,hb,hw1⟩:=new_hh hnew
 clear hnew
 have HH1:=Lib.hid hH
 have HW1:=Lib.hid hw1
 clear hH hw1
 go_wp2_with fail
 have hw:=write_any b [] bs A cap w1 HH1.out (HI.out.src HW1.out hb) hlc hcm (by simpa using hn)
 rw [HL.out] at hw
 refine hw.mono ?_
 rintro e w2 ⟨rfl,hH2,hg2⟩
 clear hw
 rw [List.nil_append] at hH2
 have HH2:=Lib.hid hH2
 have HG2:=Lib.hid hg2
 clear hH2 hg2
 go_wp2_with fail
 refine (hsum_any b bs _ HH2.out hn).mono ?_
 rintro e w3 ⟨v,rfl,ho,hH3,hg3⟩
 have hz:=HG2.out.size
 have hz1:=HW1.out.size
 have HO:=Lib.hid (ho.base (show w.heap.size≤w2.heap.size by omega))
 have HF:=Lib.hid (HW1.out.trans (below_of_only (only_then HG2.out hg3) hb hz1))
 clear ho hH3 hg3
 go_wp2_with fail
 go_ret
 exact ⟨v,rfl,HO.out,HF.out⟩
end Go.Proofs.YtlkolcokjmlmjaaGreat.Sh
namespace Go.Proofs.YtlkolcokjmlmjaaGreat.Sh
open Go.RowKit
def str (bs:List UInt8):ByteArray:=⟨bs.toArray⟩
theorem str_push (bs:List UInt8):∀ (acc:List UInt8),(bs.map bi).foldl (fun (r:ByteArray) n=>r.push (UInt8.ofNat n.toNat)) (str acc)=str (acc++bs):=by
 induction bs with
 | nil=>intro acc;simp
 | cons x r ih =>
  intro acc
  have e:(str acc).push (UInt8.ofNat (bi x).toNat)=str (acc++[x]):=by
   have:UInt8.ofNat (bi x).toNat=x:=by unfold bi;simp
   rw [this]
   unfold str ByteArray.push
   simp
  rw [List.map_cons,List.foldl_cons,e,ih]
  simp
theorem load_in {w : World} {ad : Addr} {bs : List UInt8} (h : ∀ j, j < bs.length → w.cell? (ad.add j) = some (.int .u8 (bi (bs.getD j 0)))) :
  (loadCells ad bs.length).run Tryz.prog w=.ok ((bs.map bi).map (Value.int .u8)).toArray w:=by
 have:=run_loadCells_list (P:=Tryz.prog) w ad ((bs.map bi).map (Value.int .u8)) (fun j v hv=>by
  have hj:j<bs.length:=by
   have:=(List.getElem?_eq_some_iff.1 hv).1
   simpa using this
  rw [h j hj,← hv,List.getElem?_map,List.getElem?_map,List.getElem?_eq_getElem hj,List.getD_eq_getElem?_getD,List.getElem?_eq_getElem hj]
  rfl)
 simpa using this
theorem conv_str (w : World) (A : Option Addr) (bs : List UInt8) (c : Nat) (h : In w A bs) (hA : A = none → bs = []) :
  (convert 32 9 (.slice A bs.length c)).run Tryz.prog w=.ok (.string (str bs)) w:=by
 rw [run_convert_bytes_string w 32 9 5 A bs.length c Tryz.underlying32 Tryz.underlying5 Tryz.underlying9]
 rcases A with _ | ad
 ·obtain rfl:=hA rfl
  simp [Conv.bytesToString,Sem.run_pure,str]
  rfl
 ·have hl : (loadCells ad bs.length).run Tryz.prog w = .ok ((bs.map bi).map (Value.int .u8)).toArray w := by
   rcases Nat.eq_zero_or_pos bs.length with h0 | h0
   ·exact load_in (fun j hj=>by omega)
   ·obtain ⟨ad',e,_,hc⟩:=h h0
    injection e with e
    subst e
    exact load_in hc
  rw [run_bytesToString w ad bs.length c _ hl]
  have:=str_push bs []
  rw [List.nil_append] at this
  have e0:ByteArray.empty=str []:=rfl
  rw [e0,this]
def Sl (w:World) (v:Value) (bs:List UInt8):Prop:=∃ A c,v=.slice A bs.length c∧bs.length≤c∧c≤maxLen∧In w A bs∧(A=none→bs=[])
theorem Own.sl {w:World} {B:Nat} {v:Value} {bs:List UInt8} (h:Own w B v bs):Sl w v bs:=by
 obtain ⟨A,c,hv,h1,h2,h3,h4⟩:=h.in_
 refine ⟨A,c,hv,h1,h2,h3,fun hA=>?_⟩
 rcases Nat.eq_zero_or_pos bs.length with h0 | h0
 ·exact List.eq_nil_of_length_eq_zero h0
 ·obtain ⟨g,e,_⟩:=h4 h0
  rw [hA] at e
  cases e
end Go.Proofs.YtlkolcokjmlmjaaGreat.Sh
namespace Go.Proofs.YtlkolcokjmlmjaaGreat.Sh
open Go.RowKit
theorem ssum_sl (v:Value) (bs:List UInt8) (w:World) (h:Sl w v bs) (hn:bs.length<2 ^ 60):Calls Tryz.prog 84 #[v] w (OwnPost w (sumOf bs)):=by
 obtain ⟨A,c,rfl,hlc,hcm,hI,_⟩:=h
 exact ssum_any A bs c w hI hlc hcm hn
def hexd (n:UInt8):UInt8:=if n<10 then 48+n else 87+n
def hi4 (x:UInt8):UInt8:=UInt8.ofNat (x.toNat / 16)
def lo4 (x:UInt8):UInt8:=UInt8.ofNat (x.toNat % 16)
def hex2 (x:UInt8):List UInt8:=[hexd (hi4 x),hexd (lo4 x)]
def hexL (bs:List UInt8):List UInt8:=bs.flatMap hex2
theorem hexL_snoc (bs:List UInt8) (x:UInt8):hexL (bs++[x])=hexL bs++hex2 x:=by
 unfold hexL
 rw [List.flatMap_append]
 simp
theorem hexL_length (bs:List UInt8):(hexL bs).length=2*bs.length:=by
 induction bs with
 | nil=>rfl
 | cons x r ih =>
  have:hexL (x::r)=hex2 x++hexL r:=rfl
  rw [this,List.length_append,ih,List.length_cons]
  show 2+_=_
  omega
theorem bi_hi4 (x:UInt8):bi x / 16=bi (hi4 x):=by
 unfold bi hi4
 have:=x.toNat_lt
 rw [UInt8.toNat_ofNat']
 omega
theorem bi_lo4 (x:UInt8):bits .and .u8 (bi x) 15=bi (lo4 x):=by
 unfold bi lo4
 have:=x.toNat_lt
 show bits .and .u8 ((x.toNat:Nat):Int) ((15:Nat):Int)=_
 rw [u8_and_nat _ _ (by omega) (by omega),UInt8.toNat_ofNat',show x.toNat &&& 15=x.toNat % 16 from Nat.and_two_pow_sub_one_eq_mod x.toNat 4]
 omega
theorem hi4_lt (x:UInt8):(hi4 x).toNat<16:=by unfold hi4;have:=x.toNat_lt;rw [UInt8.toNat_ofNat'];omega
theorem lo4_lt (x:UInt8):(lo4 x).toNat<16:=by unfold lo4;have:=x.toNat_lt;rw [UInt8.toNat_ofNat'];omega
theorem index_digit (h:UInt8) (hh:h.toNat<16) (w:World):(Instr.index 9 (.string ⟨#[48,49,50,51,52,53,54,55,56,57,97,98,99,100,101,102]⟩) (.int .u8 (bi h))).run Tryz.prog w=.ok (.int .u8 (bi (hexd h))) w:=by
 obtain ⟨m,hm,rfl⟩:∃ m,m<16∧h=UInt8.ofNat m:=⟨h.toNat,hh,by simp⟩
 clear hh
 obtain rfl | rfl | rfl | rfl | rfl | rfl | rfl | rfl | rfl | rfl | rfl | rfl | rfl | rfl | rfl | rfl:m=0∨m=1∨m=2∨m=3∨m=4∨m=5∨m=6∨m=7∨m=8∨m=9∨m=10∨m=11∨m=12∨m=13∨m=14∨m=15:=by omega
 all_goals kernel_rfl
def StrPost (w:World) (bs:List UInt8) (e:Ending) (w':World):Prop:=e=.returned (.string (str bs))∧Below w.heap.size w w'
set_option maxRecDepth 100000 in
set_option maxHeartbeats 800000 in
theorem hex_any (v:Value) (bs:List UInt8) (w:World) (h:Sl w v bs) (hn:bs.length≤1000000):Calls Tryz.prog 83 #[v] w (StrPost w (hexL bs)):=by
 obtain ⟨A,c,rfl,hlc,hcm,hI,hA⟩:=h
 unfold maxLen at hcm
 obtain ⟨l,hl⟩:∃ l,bs.length=l:=⟨_,rfl⟩
 rw [hl] at hlc hn ⊢
 have hmk:∀ w:World,(Instr.makeSlice 32 (.int .i64 0) (.int .i64 (2*(l:Int)))).run Tryz.prog w=.ok (.slice (some ⟨w.heap.size,0,none⟩) 0 (2*l)) (w.alloc (.cells (madeCells #[.int .u8 0] (2*l)) 5)):=fun w=>by
  have:=make_bytes (2*l) (by omega) w
  rw [Int.natCast_mul] at this
  exact this
 have hown:=own_made w (2*l) (by unfold maxLen;omega)
 have HL:=Lib.hid hl
 have HI:=Lib.hid hI
 have HA:=Lib.hid hA
 have HOWN:=Lib.hid hown
 clear hl hI hA hown
 go_enter Tryz.func83,Tryz.ntmps83
 go_wp2_with fail
 clear hmk
 go_loopw [3,12] (fun v i wr=>∃ k:Nat,k≤l∧i=.int .i64 k∧Own wr w.heap.size v (hexL (bs.take k))∧Below w.heap.size w wr) (fun _ i _=>l - (intOf i).toNat)
 case atStart =>
  exact ⟨0,by omega,rfl,by rw [List.take_zero];exact HOWN.out,(Below.refl _ _).alloc (Nat.le_refl _) _⟩
 case round =>
  obtain ⟨k,hk,rfl,ho,hbw⟩:=hrel
  have hsz:=hbw.size
  by_cases hlt:k<l
  ·obtain ⟨adr,hA1,hlt2,hcell⟩:=HI.out (by rw [HL.out];omega)
   subst hA1
   have hcw:wr.cell? (adr.add k)=some (.int .u8 (bi (bs.getD k 0))):=(hbw.cell (p:=adr.add k) (by rw [block_of_add];exact hlt2)).trans (hcell k (by rw [HL.out];omega))
   have hsn:Hid (bs.take (k+1)=bs.take k++[bs.getD k 0]):=by
    unfold Hid
    rw [List.take_add_one,List.getElem?_eq_getElem (by rw [HL.out];exact hlt),List.getD_eq_getElem?_getD,List.getElem?_eq_getElem (by rw [HL.out];exact hlt)]
    rfl
   generalize bs.getD k 0=x at *
   have hj1:(0:Int)≤(k:Int):=by omega
   have hj2:(k:Int)<(l:Int):=by omega
   have HO:=Lib.hid ho
   have HBW:=Lib.hid hbw
   clear ho hbw hcell
   have p1:=bi_hi4 x
   have p2:=bi_lo4 x
   have p3:=index_digit (hi4 x) (hi4_lt x)
   have p4:=index_digit (lo4 x) (lo4_lt x)
   have hxl:(hexL (bs.take k)).length+2≤140737488355328:=by rw [hexL_length,List.length_take];omega
   obtain ⟨i0,hi,hz0,hz1,hz2⟩:=info_parts info5
   go_wp2_with fail
   go_region_held3 (fun _=>True) (trivial)
    (first | (refine step_append_any _ rfl (.tmp 16) (.tmp 23) 32 rfl w.heap.size 5 i0 (.int .u8 0) 1 1 Tryz.underlying32 hi hz0 hz1 hz2 rfl (by decide) u3 (hexL (bs.take k)).length _ rfl (HO.out.drew.alloc _) (wr.heap.size+1) (some ⟨wr.heap.size,0,none⟩) 2 2 ((hex2 x).map bv) rfl (reads_new wr.drew (hex2 x) _ rfl 2 rfl) (bv_one _) (by unfold maxLen;omega) (by omega) (by simp;omega) ?_;intro v1 w1 hown1 hgrow1 hblk1))
   all_goals
    have ho1:Own w1 w.heap.size v1 (hexL (bs.take (k+1))):=by
     rw [hsn.out,hexL_snoc]
     unfold Own
     rw [List.length_append,List.map_append]
     exact hown1
    have hb1:Below w.heap.size w w1:=((HBW.out.drew).alloc hsz _).grown hgrow1 (by simp;omega) (fun k hk=>(World.ownsRow.lt HO.out k hk).1)
    have HO1:=Lib.hid ho1
    have HB1:=Lib.hid hb1
    clear ho1 hb1 hown1 hgrow1 hblk1 p1 p2 p3 p4
    go_wp2
    go_roundw
    case rel=>exact ⟨k+1,by omega,by go_num,HO1.out,HB1.out⟩
    case measure=>simp [intOf];omega
  ·obtain rfl:k=l:=by omega
   rw [List.take_of_length_le (by rw [HL.out];omega)] at ho
   obtain ⟨A3,c3,hv3,hA3,hA4,hI3,hA5⟩:=ho.sl
   subst hv3
   have hcs:=conv_str wr A3 (hexL bs) c3 hI3 hA5
   have HBW:=Lib.hid hbw
   clear ho hI3 hA5 hbw
   obtain ⟨m,hm⟩:∃ m,(hexL bs).length=m:=⟨_,rfl⟩
   rw [hm] at hcs ⊢
   clear hm
   go_wp2
   go_ret
   exact ⟨rfl,HBW.out⟩
end Go.Proofs.YtlkolcokjmlmjaaGreat.Sh
namespace Go.Proofs.YtlkolcokjmlmjaaGreat.Sh
open Go.RowKit
theorem sumOf_length (bs:List UInt8):(sumOf bs).length=32:=by
 rw [sumOf_eq];exact outB_length _
set_option maxRecDepth 100000 in
set_option maxHeartbeats 400000 in
theorem id_any (v:Value) (bs:List UInt8) (w:World) (h:Sl w v bs) (hn:bs.length<2 ^ 60):Calls Tryz.prog 21 #[v] w (StrPost w (hexL (sumOf bs))):=by
 have H:=Lib.hid h
 clear h
 go_enter Tryz.func21,Tryz.ntmps21
 go_wp2_with fail
 refine (ssum_sl v bs _ H.out hn).mono ?_
 rintro e w1 ⟨v1,rfl,ho,hb⟩
 have HS:=Lib.hid ho.sl
 have HB:=Lib.hid hb
 clear ho hb
 go_wp2_with fail
 refine (hex_any v1 (sumOf bs) _ HS.out (by rw [sumOf_length];omega)).mono ?_
 rintro e w2 ⟨rfl,hb2⟩
 have hz:=HB.out.size
 have HB2:=Lib.hid (HB.out.trans (hb2.mono hz))
 clear hb2
 go_wp2_with fail
 go_ret
 exact ⟨rfl,HB2.out⟩
end Go.Proofs.YtlkolcokjmlmjaaGreat.Sh
namespace Go.Proofs.YtlkolcokjmlmjaaGreat.Sh
open Go.RowKit
def IsRow (k:IntKind) (w:World) (a:Option Addr) (len cap:Nat) (zs:List Int):Prop :=
 (a=none∧len=0∧cap=0∧zs=[]) ∨
 ∃ x,a=some x∧len≤cap∧cap≤maxLen∧zs.length=cap∧(∀ i,i<zs.length→w.cell? (x.add i)=some (.int k (zs.getD i 0)))∧∀ n∈zs,(Lit.int k n).wf=true
def Wr (w:World) (g m:Nat):Prop:=∃ cur,Blk w g 5 cur∧∀ j,j<m→∃ u,cur[j]?=some (.int .u8 u)
end Go.Proofs.YtlkolcokjmlmjaaGreat.Sh
namespace Go.Proofs.YtlkolcokjmlmjaaGreat.Sh
open Go.RowKit
def dv (c:UInt8):Option UInt8:=if 48≤c∧c≤57 then some (c - 48) else if 97≤c∧c≤102 then some (c - 87) else none
theorem dv_cases (c : UInt8) : (bi c < 48 ∧ dv c = none) ∨ (48 ≤ bi c ∧ bi c ≤ 57 ∧ dv c = some (UInt8.ofNat (bi c - 48).toNat)) ∨ (57 < bi c ∧ bi c < 97 ∧ dv c = none) ∨
  (97≤bi c∧bi c≤102∧dv c=some (UInt8.ofNat (bi c - 87).toNat))∨(102<bi c∧dv c=none):=by
 obtain ⟨n,hn,rfl⟩:∃ n,n<256∧c=UInt8.ofNat n:=⟨c.toNat,c.toNat_lt,by simp⟩
 have hb:bi (UInt8.ofNat n)=(n:Int):=by unfold bi;rw [UInt8.toNat_ofNat'];omega
 rw [hb]
 have key:∀ n,n<256→(n<48∧dv (UInt8.ofNat n)=none)∨(48≤n∧n≤57∧dv (UInt8.ofNat n)=some (UInt8.ofNat (n - 48)))∨(57<n∧n<97∧dv (UInt8.ofNat n)=none) ∨
  (97≤n∧n≤102∧dv (UInt8.ofNat n)=some (UInt8.ofNat (n - 87)))∨(102<n∧dv (UInt8.ofNat n)=none):=by decide +kernel
 rcases key n hn with ⟨h1,h2⟩ | ⟨h1,h2,h3⟩ | ⟨h1,h2,h3⟩ | ⟨h1,h2,h3⟩ | ⟨h1,h2⟩
 ·exact .inl ⟨by omega,h2⟩
 ·exact .inr (.inl ⟨by omega,by omega,by rw [h3];congr 2;omega⟩)
 ·exact .inr (.inr (.inl ⟨by omega,by omega,h3⟩))
 ·exact .inr (.inr (.inr (.inl ⟨by omega,by omega,by rw [h3];congr 2;omega⟩)))
 ·exact .inr (.inr (.inr (.inr ⟨by omega,h2⟩)))
theorem bi_sub (x:Int) (h0:0≤x) (h1:x≤255):bi (UInt8.ofNat x.toNat)=x:=by
 unfold bi;rw [UInt8.toNat_ofNat'];omega
set_option maxHeartbeats 400000 in
theorem dig_no (c:UInt8) (w:World) (h:dv c=none):Calls Tryz.prog 125 #[.int .u8 (bi c)] w fun e w'=>e=.returned (.tuple #[.int .u8 0,.bool false])∧w=w':=by
 have hb:=bi_lt c
 rcases dv_cases c with ⟨h1,_⟩ | ⟨_,_,h2⟩ | ⟨h1,h2,_⟩ | ⟨_,_,h2⟩ | ⟨h1,_⟩
 ·clear h
  generalize bi c=x at *
  go_enter Tryz.func125,Tryz.ntmps125
  go_wp2
  go_ret2
  exact ⟨rfl,rfl⟩
 ·rw [h] at h2;cases h2
 ·clear h
  generalize bi c=x at *
  go_enter Tryz.func125,Tryz.ntmps125
  go_wp2
  go_ret2
  exact ⟨rfl,rfl⟩
 ·rw [h] at h2;cases h2
 ·clear h
  generalize bi c=x at *
  go_enter Tryz.func125,Tryz.ntmps125
  go_wp2
  go_ret2
  exact ⟨rfl,rfl⟩
set_option maxHeartbeats 400000 in
theorem dig_yes (c v:UInt8) (w:World) (h:dv c=some v):Calls Tryz.prog 125 #[.int .u8 (bi c)] w fun e w'=>e=.returned (.tuple #[.int .u8 (bi v),.bool true])∧w=w':=by
 have hb:=bi_lt c
 rcases dv_cases c with ⟨_,h2⟩ | ⟨h1,h1',h2⟩ | ⟨_,_,h2⟩ | ⟨h1,h1',h2⟩ | ⟨_,h2⟩
 ·rw [h] at h2;cases h2
 ·rw [h] at h2
  injection h2 with h2
  subst h2
  clear h
  generalize bi c=x at *
  have HX:=Lib.hid (bi_sub (x - 48) (by omega) (by omega))
  go_enter Tryz.func125,Tryz.ntmps125
  go_wp2
  go_ret2
  exact ⟨by rw [HX.out];rfl,rfl⟩
 ·rw [h] at h2;cases h2
 ·rw [h] at h2
  injection h2 with h2
  subst h2
  clear h
  generalize bi c=x at *
  have HX:=Lib.hid (bi_sub (x - 87) (by omega) (by omega))
  have e1:x - 97+10=x - 87:=by omega
  go_enter Tryz.func125,Tryz.ntmps125
  go_wp2
  go_ret2
  exact ⟨by rw [HX.out,← e1];rfl,rfl⟩
 ·rw [h] at h2;cases h2
theorem str_size (cs:List UInt8):(str cs).size=cs.length:=by
 unfold str ByteArray.size
 simp
theorem index_str (cs:List UInt8) (k:Nat) (hk:k<cs.length) (w:World):(Instr.index 9 (.string (str cs)) (.int .i64 (k:Int))).run Tryz.prog w=.ok (.int .u8 (bi (cs.getD k 0))) w:=by
 have hsz:=str_size cs
 have hg:(str cs)[k]?=some cs[k]:=getElem?_pos (str cs) k (by rw [hsz];exact hk)
 simp [Instr.index,go_sem]
 rw [hg,List.getElem?_eq_getElem hk]
 unfold bi
 rfl
def hexOk (cs:List UInt8):Bool:=cs.length % 2==0&&cs.all (fun c=>(dv c).isSome)
theorem hexOk_at {cs:List UInt8} (h:hexOk cs=true) (k:Nat) (hk:k<cs.length):∃ v,dv (cs.getD k 0)=some v:=by
 unfold hexOk at h
 rw [Bool.and_eq_true] at h
 have:=List.all_eq_true.1 h.2 cs[k] (List.getElem_mem hk)
 rw [List.getD_eq_getElem?_getD,List.getElem?_eq_getElem hk]
 exact Option.isSome_iff_exists.1 this
theorem hexOk_even {cs:List UInt8} (h:hexOk cs=true):cs.length % 2=0:=by
 unfold hexOk at h
 rw [Bool.and_eq_true,beq_iff_eq] at h
 exact h.1
theorem hexOk_of {cs:List UInt8} (h:cs.length % 2=0) (hd:∀ k,k<cs.length→∃ v,dv (cs.getD k 0)=some v):hexOk cs=true:=by
 unfold hexOk
 rw [Bool.and_eq_true,beq_iff_eq]
 refine ⟨h,List.all_eq_true.2 fun c hc=>?_⟩
 obtain ⟨k,hk,rfl⟩:=List.getElem_of_mem hc
 obtain ⟨v,hv⟩:=hd k hk
 rw [List.getD_eq_getElem?_getD,List.getElem?_eq_getElem hk] at hv
 rw [show dv cs[k]=some v from hv]
 rfl
set_option maxHeartbeats 400000 in
theorem ishex_yes (cs:List UInt8) (w:World) (h:hexOk cs=true) (hl:cs.length≤1000000):Calls Tryz.prog 90 #[.string (str cs)] w fun e w'=>e=.returned (.bool true)∧w=w':=by
 have hev:=hexOk_even h
 have hsz:=str_size cs
 have H:=Lib.hid h
 obtain ⟨l,hL⟩:∃ l,cs.length=l:=⟨_,rfl⟩
 rw [hL] at hsz hev hl
 have HL:=Lib.hid hL
 clear h hL
 have e1:(l:Int) % 2=0:=by omega
 have e2:(l:Int).tmod 2=0:=by rw [Int.tmod_eq_emod_of_nonneg (by omega)];omega
 have HEV:=Lib.hid hev
 clear hev
 go_enter Tryz.func90,Tryz.ntmps90
 go_wp2
 go_loop [12] (fun i=>∃ k:Nat,k≤l∧i=.int .i64 k) (fun i=>l - (intOf i).toNat)
 case atStart=>exact ⟨0,by omega,rfl⟩
 case round =>
  obtain ⟨k,hk,rfl⟩:=hrel
  by_cases hlt:k<l
  ·have hidx:=index_str cs k (by rw [HL.out];exact hlt)
   obtain ⟨v,hv⟩:=hexOk_at H.out k (by rw [HL.out];exact hlt)
   generalize cs.getD k 0=x at *
   have HV:=Lib.hid hv
   clear hv
   go_wp2_with (go_at_call 125;refine (dig_yes x v _ HV.out).mono ?_;rintro e w' ⟨rfl,rfl⟩)
   go_round
   case rel=>exact ⟨k+1,by omega,by go_num⟩
   case measure=>simp [intOf];omega
  ·obtain rfl:k=l:=by omega
   go_wp2
   go_ret
   exact ⟨rfl,rfl⟩
set_option maxHeartbeats 400000 in
theorem ishex_no (cs:List UInt8) (w:World) (h:hexOk cs=false) (hl:cs.length≤1000000):Calls Tryz.prog 90 #[.string (str cs)] w fun e w'=>e=.returned (.bool false)∧w=w':=by
 have hsz:=str_size cs
 have H:=Lib.hid h
 obtain ⟨l,hL⟩:∃ l,cs.length=l:=⟨_,rfl⟩
 rw [hL] at hsz hl
 have HL:=Lib.hid hL
 clear h hL
 by_cases hev:l % 2=0
 ·have e1:(l:Int) % 2=0:=by omega
  have e2:(l:Int).tmod 2=0:=by rw [Int.tmod_eq_emod_of_nonneg (by omega)];omega
  have HEV:=Lib.hid hev
  clear hev
  go_enter Tryz.func90,Tryz.ntmps90
  go_wp2
  go_loop [12] (fun i=>∃ k:Nat,k≤l∧i=.int .i64 k∧∀ j,j<k→∃ v,dv (cs.getD j 0)=some v) (fun i=>l - (intOf i).toNat)
  case atStart=>exact ⟨0,by omega,rfl,fun j hj=>by omega⟩
  case round =>
   obtain ⟨k,hk,rfl,hall⟩:=hrel
   have HALL:=Lib.hid hall
   clear hall
   by_cases hlt:k<l
   ·have hidx:=index_str cs k (by rw [HL.out];exact hlt)
    obtain ⟨x,hx⟩:∃ x,cs.getD k 0=x:=⟨_,rfl⟩
    rw [hx] at hidx
    have HX:=Lib.hid hx
    clear hx
    cases hv:dv x with
    | none =>
     have HV:=Lib.hid hv
     clear hv
     go_wp2_with (go_at_call 125;refine (dig_no x _ HV.out).mono ?_;rintro e w' ⟨rfl,rfl⟩)
     go_ret
     exact ⟨rfl,rfl⟩
    | some v =>
     have HV:=Lib.hid hv
     clear hv
     go_wp2_with (go_at_call 125;refine (dig_yes x v _ HV.out).mono ?_;rintro e w' ⟨rfl,rfl⟩)
     go_round
     case rel =>
      refine ⟨k+1,by omega,by go_num,fun j hj=>?_⟩
      by_cases e:j=k
      ·rw [e,HX.out];exact ⟨v,HV.out⟩
      ·exact HALL.out j (by omega)
     case measure=>simp [intOf];omega
   ·obtain rfl:k=l:=by omega
    have hh:=H.out
    rw [hexOk_of (by rw [HL.out];exact HEV.out) (by rw [HL.out];exact HALL.out)] at hh
    cases hh
 ·have e1:((l:Int) % 2 != 0)=true:=by rw [bne_iff_ne];omega
  have e2:((l:Int) % 2==0)=false:=beq_eq_false_iff_ne.2 (by omega)
  clear hev
  go_enter Tryz.func90,Tryz.ntmps90
  go_wp2
  go_ret
  exact ⟨rfl,rfl⟩
end Go.Proofs.YtlkolcokjmlmjaaGreat.Sh
